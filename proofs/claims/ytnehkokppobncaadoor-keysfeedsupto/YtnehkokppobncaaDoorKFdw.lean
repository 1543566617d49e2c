/-
  Keys: the law of feeding, its walk.
-/
import Derived.Test.YtnehkokppobncaaDoorGR
import Derived.Deep.RegionWith
namespace Go.Proofs.YtnehkokppobncaaDoor
open Go.RowKit
set_option linter.unusedVariables false
set_option maxRecDepth 100000

set_option maxHeartbeats 16000000 in
theorem keysFeeds_walk (ps : List (List UInt8)) (ad : Option Addr) (cp : Nat) (w : World) (hse : ps ≠ [] → ∃ g o, ad = some ⟨g, o, none⟩ ∧ g < w.heap.size ∧ ∀ i x, ps[i]? = some x → w.cell? ⟨g, o + i, none⟩ = some (.string (str x))) (hb : wordsB ps ≤ 1048576) (hT : Tabs w) :
    Calls Tryd.prog 3 #[.slice ad ps.length cp] w fun r w' => r = .returned (.bool true) ∧ Below w.heap.size w w' := by
  have HN := hidK (new_any w)
  obtain ⟨W, hW⟩ : ∃ W, w.alloc (.cells #[.slice none 0 0] 41) = W := ⟨_, rfl⟩
  obtain ⟨d, hd⟩ : ∃ d, w.heap.size = d := ⟨_, rfl⟩
  have hdc := new_dc hT
  rw [hW, hd] at hdc HN
  have hbW : Below w.heap.size w W := by rw [← hW]; exact (Below.refl _ _).alloc (Nat.le_refl _) _
  have hsW : W.heap.size = d + 1 := by rw [← hW, ← hd]; simp
  obtain ⟨V0, hV0⟩ : ∃ V, W.alloc (.cells #[.string ⟨#[]⟩] 26) = V := ⟨_, rfl⟩
  obtain ⟨Rb, hRb⟩ : ∃ R, W.heap.size = R := ⟨_, rfl⟩
  have hb0 : Below W.heap.size W V0 := by rw [← hV0]; exact (Below.refl _ _).alloc (Nat.le_refl _) _
  have hr0 : V0.heap[Rb]? = some (.cells #[.string ⟨#[]⟩] 26 (0, 0)) := by rw [← hV0, ← hRb]; exact heap_alloc_new W _
  have q0 := cell_at hr0 0
  have q1 := free_at hr0 0
  have hks : Ks w W.heap.size d Rb (V0.setCell ⟨Rb, 0, none⟩ (.string ⟨#[]⟩)) [] := by
    refine ⟨⟨_, ((hdc.more hb0).other hr0 (by decide) (by omega) (by omega) _).rebase⟩, put_at hr0 0 _, (below_step hbW hb0).setCell (p := ⟨Rb, 0, none⟩) (by simp only; omega) _, rfl, Nat.zero_le _, ⟨by omega, by omega, by omega, by omega⟩⟩
  obtain ⟨V, hV⟩ : ∃ V, V0.setCell ⟨Rb, 0, none⟩ (.string ⟨#[]⟩) = V := ⟨_, rfl⟩
  rw [hV] at hks
  obtain ⟨B, hB⟩ : ∃ B, W.heap.size = B := ⟨_, rfl⟩
  rw [hB] at hks
  have HKs := hidK hks
  have HTT := hidK hT
  obtain ⟨N, hN⟩ : ∃ N, ps.length = N := ⟨_, rfl⟩
  have HN2 := hidK hN
  have hNb : N ≤ 1048576 := by have := words_len ps; omega
  have HSe := hidK hse
  have HWb := hidK hb
  have HPz : Hid (∀ X, Below w.heap.size w X → Below d w X) := fun X hX => by rw [← hd]; exact hX
  have HWV : Hid (w.alloc (.cells #[.slice none 0 0] 41) = W) := hW
  have HRW : Hid (W.heap.size = Rb) := hRb
  rw [hN]
  clear hdc hbW hsW hb0 hr0 hks hT hN hse hb hW hB hd
  go_enter Tryd.func3, Tryd.ntmps3
  go_wp2_with fail
  refine HN.out.mono ?_
  rintro e w1 ⟨rfl, rfl⟩
  go_wp2_with fail
  go_loopw [5] (fun iv wr => ∃ (i : Nat) (h : List UInt8), i ≤ N ∧ iv = .int .i64 i ∧ Hid (Ks w B d Rb wr h)) (fun iv _ => N - (intOf iv).toNat)
  case atStart => exact ⟨0, [], Nat.zero_le _, rfl, HKs⟩
  case round =>
    obtain ⟨i, h, hi, rfl, HK⟩ := hrel
    by_cases hlt : i < N
    · have hip : i < ps.length := by rw [HN2.out]; exact hlt
      obtain ⟨g0, o0, rfl, hg0, hcell⟩ := HSe.out (fun e => by rw [e] at hip; simp at hip)
      obtain ⟨P, hP⟩ : ∃ P, ps[i] = P := ⟨_, rfl⟩
      have hPl : P.length ≤ 1048576 := by
        have h1 := words_mem (c := ps) (x := P) (by rw [← hP]; exact List.getElem_mem hip)
        have := HWb.out
        omega
      have hc0 := hcell i P (by rw [List.getElem?_eq_getElem hip, hP])
      have HC0 : Hid (∀ X, Below w.heap.size w X → X.cell? ⟨g0, o0 + i, none⟩ = some (.string (str P))) := fun X hX => (hX.cell (by exact hg0)).trans hc0
      have e1 := HC0.out wr HK.out.below
      have hi1 : (i : Int) < (N : Int) := by omega
      have hi0 : (0 : Int) ≤ (i : Int) := by omega
      have HI := hidK hlt
      obtain ⟨v0, hd0⟩ := HK.out.dc
      have HD0 := hidK hd0
      have HTr := hidK (HTT.out.below HK.out.below)
      have HPl := hidK hPl
      clear hP hPl hc0 hcell hip hlt hi hd0 hg0
      by_cases hPe : P = []
      · subst hPe
        obtain ⟨E0, hE0⟩ : ∃ E0, str [] = E0 := ⟨_, rfl⟩
        have y0 : E0.toList = [] := by rw [← hE0, str_toList]
        have y1 : (E0.toList == []) = true := by rw [y0]; rfl
        have y2 : E0.toList.isEmpty = true := by rw [y0]; rfl
        have HFl := hidK (flush_any HD0.out (by have := HK.out.len; omega))
        have HRf := hidK (rflush_any h (by have := HK.out.len; omega))
        rw [flush_is HK.out.held] at HRf
        have HFw : Hid ((flushF h).length ≤ 1048576) := by
          show _ ≤ _
          have h1 := fl_len h.length h
          rw [flush_is HK.out.held] at h1
          have := HK.out.len
          omega
        obtain ⟨ks, hks⟩ : ∃ ks, flushF h = ks := ⟨_, rfl⟩
        rw [hks] at HFl HRf HFw
        rw [hE0] at e1
        clear hE0 hks HC0
        obtain ⟨A, hA⟩ : ∃ A, str h = A := ⟨_, rfl⟩
        have HAA := hidK hA
        rw [hA] at HRf
        clear hA
        go_wp2_with fail
        refine HFl.out.mono ?_
        rintro e w1 ⟨lv, rfl, hf⟩
        have r1 : w1.cell? ⟨Rb, 0, none⟩ = some (.string A) := by
          have h9 : w1.heap[Rb]? = some (.cells #[.string (str h)] 26 (0, 0)) := hf.ft Rb _ _ _ HK.out.rb (by decide) (by have := HK.out.nums; omega)
          rw [← HAA.out]
          exact cell_at h9 0
        have HF := hidK hf
        clear hf
        go_wp2_with fail
        refine (HRf.out _).mono ?_
        rintro e w2 ⟨v2, rfl, hb2, hs2, hy2⟩
        obtain ⟨k1, k2, k3, k4, k5, k6⟩ := HK.out.next HF.out hb2 hs2 hy2 (h' := []) rfl (Nat.zero_le _)
        have z0 : str [] = ⟨#[]⟩ := rfl
        rw [z0] at k1 k2 k3
        obtain ⟨w3, hw3⟩ : ∃ w3, w2.setCell ⟨Rb, 0, none⟩ (.string ⟨#[]⟩) = w3 := ⟨_, rfl⟩
        rw [hw3] at k1 k2 k3
        obtain ⟨h', hh'⟩ : ∃ h' : List UInt8, [] = h' := ⟨_, rfl⟩
        rw [hh'] at k1
        obtain ⟨H', hH'⟩ : ∃ H' : ByteArray, str h' = H' := ⟨_, rfl⟩
        have HHs : Hid (str h' = H') := hH'
        have HTo : Hid (ks.length ≤ 4000000) := by show _ ≤ _; have := HFw.out; omega
        have HKn := hidK k1
        have HL := hidK k2
        have HS2 := hidK k3
        have HSz := hidK k6
        clear k1 k2 k3 k6 hb2 hs2 hy2 hh' hH'
        obtain ⟨a1, c1, rfl⟩ := HL.out.slice
        obtain ⟨a2, c2, hv2, hsk2⟩ := id HS2.out
        subst hv2
        have HSa : Hid (∀ Y, Below w3.heap.size w3 Y → Calls Tryd.prog 9 #[.slice a1 ks.length c1, .slice a2 ks.length c2] Y fun r w' => r = .returned (.bool true) ∧ Below Y.heap.size Y w') := fun Y hY => by
          have h9 := same_any (HL.out.see.below hY) (HS2.out.below hY) HTo.out HTo.out
          rw [decide_eq_true rfl] at h9
          exact h9
        have HHd : Hid (∀ Y, Below w3.heap.size w3 Y → Calls Tryd.prog 10 #[.pointer (some ⟨d, 0, none⟩)] Y fun r w' => r = .returned (.string H') ∧ Y = w') := fun Y hY => by
          obtain ⟨vd, hvd⟩ := HKn.out.dc
          rw [← HHs.out]
          exact held_any (hvd.more hY)
        have HSx : Hid (∀ Y, Below w3.heap.size w3 Y → Y.cell? ⟨Rb, 0, none⟩ = some (.string H')) := fun Y hY => by
          rw [← HHs.out]
          exact cell_at ((hY.block Rb (lt_block HKn.out.rb)).trans HKn.out.rb) 0
        obtain ⟨n, hn⟩ : ∃ n, ks.length = n := ⟨_, rfl⟩
        have hn4 : n ≤ 4000000 := by have := HTo.out; omega
        have HLs : Hid (KeysAt w3 wr.heap.size (.slice a1 n c1) ks ∧ ks.length = n) := by rw [← hn]; exact ⟨HL.out, rfl⟩
        rw [hn] at HSa ⊢
        have HBx := hidK (Below.refl w3.heap.size w3)
        have HHq : Hid (H'.toList = H'.toList) := rfl
        clear hsk2 hn HL
        go_wp2_with fail
        refine wp_region_held_drew (S := (fun X => X.cell? ⟨Rb, 0, none⟩ = some (.string H'))) (by kernel_rfl) ?sE (fun hHeld => ?_)
        case sE => ((try dsimp only); exact HSx.out _ (by first | exact HBx.out | exact HBx.out.drew))
        have HBn := hidK HBx.out.drew
        clear HBx
        have HBx := hidK HBn.out
        clear HBn
        refine wpAnyH_take (i := 0) (oi := { dst := some 46, op := Op.move (Operand.tmp 6), type := 27, pos := "law.go:72", after := #[], guard := none }) (v := ?vE0n1) rfl (by kernel_rfl) (by kernel_rfl) (by kernel_rfl) (fun _ _ _ h => h) (Or.inl ⟨by rfl, ?yE0n1⟩) (by assumption) ?rE0n1
        case yE0n1 => (intro w hSw; (try dsimp only at hSw); first | (go_simp; done) | (go_simp; with_reducible rfl))
        try simp only [Act.put, List.setIfInBounds_toArray, List.set_cons_zero, List.set_cons_succ]
        refine wpAnyH_take (i := 1) (oi := { dst := some 47, op := Op.move (Operand.tmp 7), type := 27, pos := "law.go:72", after := #[], guard := none }) (v := ?vE1n2) rfl (by kernel_rfl) (by kernel_rfl) (by kernel_rfl) (fun _ _ _ h => h) (Or.inl ⟨by rfl, ?yE1n2⟩) (by assumption) ?rE1n2
        case yE1n2 => (intro w hSw; (try dsimp only at hSw); first | (go_simp; done) | (go_simp; with_reducible rfl))
        try simp only [Act.put, List.setIfInBounds_toArray, List.set_cons_zero, List.set_cons_succ]
        refine wpAnyH_ready (rs := [2]) (by kernel_rfl) (by simp) (AllReadyH.cons (o := { dst := some 48, op := Op.call { callee := Callee.value (Operand.func 9), args := #[Operand.tmp 46, Operand.tmp 47], argTypes := #[27, 27] }, type := 4, pos := "law.go:72", after := #[{ on := 0, ground := Ground.data }, { on := 1, ground := Ground.data }], guard := none }) rfl (fun K hK => ?bEn3q0) AllReadyH.nil)
        go_simp
        go_wp2_with (refine (HSa.out _ (by first | exact HBx.out | exact HBx.out.drew)).mono ?_; rintro e Y1 ⟨rfl, hb⟩; have HBn := hidK (below_step HBx.out hb); clear hb HBx; have HBx := hidK HBn.out; clear HBn)
        refine hK.out _ _ ?kEn3o2 (fun hHeld3 => ?_)
        case kEn3o2 => ((try dsimp only); exact HSx.out _ (by first | exact HBx.out | exact HBx.out.drew))
        clear hK K
        try simp only [Act.put, List.setIfInBounds_toArray, List.set_cons_zero, List.set_cons_succ]
        refine wpAnyH_take (i := 3) (oi := { dst := some 49, op := Op.unOp UnOp.not 4 (Operand.tmp 48), type := 4, pos := "law.go:72", after := #[{ on := 2, ground := Ground.data }], guard := none }) (v := ?vE3n4) rfl (by kernel_rfl) (by kernel_rfl) (by kernel_rfl) (fun _ _ _ h => h) (Or.inl ⟨by rfl, ?yE3n4⟩) (by assumption) ?rE3n4
        case yE3n4 => (intro w hSw; (try dsimp only at hSw); first | (go_simp; done) | (go_simp; with_reducible rfl))
        try simp only [Act.put, List.setIfInBounds_toArray, List.set_cons_zero, List.set_cons_succ]
        refine wpAnyH_take (i := 4) (oi := { dst := some 50, op := Op.move (Operand.tmp 49), type := 4, pos := "law.go:72", after := #[{ on := 3, ground := Ground.data }, { on := 2, ground := Ground.chain }], guard := none }) (v := ?vE4n5) rfl (by kernel_rfl) (by kernel_rfl) (by kernel_rfl) (fun _ _ _ h => h) (Or.inl ⟨by rfl, ?yE4n5⟩) (by assumption) ?rE4n5
        case yE4n5 => (intro w hSw; (try dsimp only at hSw); first | (go_simp; done) | (go_simp; with_reducible rfl))
        try simp only [Act.put, List.setIfInBounds_toArray, List.set_cons_zero, List.set_cons_succ]
        refine wpAnyH_take (i := 5) (oi := { dst := some 51, op := Op.move (Operand.tmp 3), type := 23, pos := "law.go:72", after := #[{ on := 4, ground := Ground.guard }], guard := some (4, false) }) (v := ?vE5n6) rfl (by kernel_rfl) (by kernel_rfl) (by kernel_rfl) (fun _ _ _ h => h) (Or.inl ⟨by rfl, ?yE5n6⟩) (by assumption) ?rE5n6
        case yE5n6 => (intro w hSw; (try dsimp only at hSw); first | (go_simp; done) | (go_simp; with_reducible rfl))
        try simp only [Act.put, List.setIfInBounds_toArray, List.set_cons_zero, List.set_cons_succ]
        refine wpAnyH_take (i := 7) (oi := { dst := some 53, op := Op.fieldAddr 26 (Operand.tmp 4) 0, type := 0, pos := "law.go:72", after := #[{ on := 4, ground := Ground.guard }], guard := some (4, false) }) (v := ?vE7n7) rfl (by kernel_rfl) (by kernel_rfl) (by kernel_rfl) (fun _ _ _ h => h) (Or.inl ⟨by rfl, ?yE7n7⟩) (by assumption) ?rE7n7
        case yE7n7 => (intro w hSw; (try dsimp only at hSw); first | (go_simp; done) | (go_simp; with_reducible rfl))
        try simp only [Act.put, List.setIfInBounds_toArray, List.set_cons_zero, List.set_cons_succ]
        refine wpAnyH_take (i := 8) (oi := { dst := some 54, op := Op.load 9 (Operand.tmp 53), type := 9, pos := "law.go:72", after := #[{ on := 7, ground := Ground.data }, { on := 4, ground := Ground.guard }], guard := some (4, false) }) (v := ?vE8n8) rfl (by kernel_rfl) (by kernel_rfl) (by kernel_rfl) (fun _ _ _ h => h) (Or.inl ⟨by rfl, ?yE8n8⟩) (by assumption) ?rE8n8
        case yE8n8 => (intro w hSw; (try dsimp only at hSw); first | (go_simp; done) | (go_simp; with_reducible rfl))
        try simp only [Act.put, List.setIfInBounds_toArray, List.set_cons_zero, List.set_cons_succ]
        refine wpAnyH_ready (rs := [6]) (by kernel_rfl) (by simp) (AllReadyH.cons (o := { dst := some 52, op := Op.call { callee := Callee.value (Operand.func 10), args := #[Operand.tmp 51], argTypes := #[23] }, type := 9, pos := "law.go:72", after := #[{ on := 5, ground := Ground.data }, { on := 4, ground := Ground.chain }, { on := 4, ground := Ground.guard }], guard := some (4, false) }) rfl (fun K hK => ?bEn9q0) AllReadyH.nil)
        go_simp
        go_wp2_with (refine (HHd.out _ (by first | exact HBx.out | exact HBx.out.drew)).mono ?_; rintro e Y2 ⟨rfl, rfl⟩)
        refine hK.out _ _ ?kEn9o6 (fun hHeld9 => ?_)
        case kEn9o6 => ((try dsimp only); exact HSx.out _ (by first | exact HBx.out | exact HBx.out.drew))
        clear hK K
        try simp only [Act.put, List.setIfInBounds_toArray, List.set_cons_zero, List.set_cons_succ]
        refine wpAnyH_take (i := 9) (oi := { dst := some 55, op := Op.binOp BinOp.neq 9 (Operand.tmp 52) (Operand.tmp 54) 9, type := 4, pos := "law.go:72", after := #[{ on := 6, ground := Ground.data }, { on := 8, ground := Ground.data }, { on := 4, ground := Ground.guard }], guard := some (4, false) }) (v := ?vE9n10) rfl (by kernel_rfl) (by kernel_rfl) (by kernel_rfl) (fun _ _ _ h => h) (Or.inl ⟨by rfl, ?yE9n10⟩) (by assumption) ?rE9n10
        case yE9n10 => (intro w hSw; (try dsimp only at hSw); first | (go_simp; done) | (go_simp; with_reducible rfl))
        try simp only [Act.put, List.setIfInBounds_toArray, List.set_cons_zero, List.set_cons_succ]
        refine wpAnyH_take (i := 10) (oi := { dst := some 56, op := Op.pick (Operand.tmp 50) (Operand.const (Value.bool true)) (Operand.tmp 55), type := 4, pos := "law.go:72", after := #[{ on := 4, ground := Ground.data }, { on := 9, ground := Ground.data }], guard := none }) (v := ?vE10n11) rfl (by kernel_rfl) (by kernel_rfl) (by kernel_rfl) (fun _ _ _ h => h) (Or.inl ⟨by rfl, ?yE10n11⟩) (by assumption) ?rE10n11
        case yE10n11 => (intro w hSw; (try dsimp only at hSw); first | (go_simp; done) | (go_simp; with_reducible rfl))
        try simp only [Act.put, List.setIfInBounds_toArray, List.set_cons_zero, List.set_cons_succ]
        refine wpAnyH_done (by kernel_rfl) ?_ _
        go_wp2_with fail
        go_loopw [8] (fun kv wx => ∃ k : Nat, k ≤ n ∧ kv = .int .i64 k ∧ Hid (Kw w B d Rb wx h' a1 n)) (fun kv _ => n - (intOf kv).toNat)
        case atStart => exact ⟨0, Nat.zero_le _, rfl, Kw.of (HKn.out.more HBx.out) (HLs.out.1.below HBx.out) (Nat.le_trans HD0.out.bs (Nat.le_refl _)) HLs.out.2⟩
        case round =>
          obtain ⟨k, hk, rfl, HKw⟩ := hrel
          by_cases hkn : k < n
          · obtain ⟨g, o, cur, rfl, hg, hsz, hBg⟩ := HKw.out.row (by omega)
            have j1 : (k : Int) < (n : Int) := by omega
            have j0 : (0 : Int) ≤ (k : Int) := by omega
            have e1 : wr.cell? ⟨g, o + k * 2, none⟩ = some (cur[o + k * 2]'(by omega)) := by rw [cell_at hg, Array.getElem?_eq_getElem (by omega)]
            have e2 : wr.cell? ⟨g, o + k * 2 + 1, none⟩ = some (cur[o + k * 2 + 1]'(by omega)) := by rw [cell_at hg, Array.getElem?_eq_getElem (by omega)]
            have f1 := free_at hg (o + k * 2)
            have f2 := free_at hg (o + k * 2 + 1)
            have HKq : Hid (Kw w B d Rb ((wr.setCell ⟨g, o + k * 2, none⟩ (.int .i64 (-1))).setCell ⟨g, o + k * 2 + 1, none⟩ (.int .i64 0)) h' (some ⟨g, o, none⟩) n) := (HKw.out.put (by omega) _ _).put (by omega) _ _
            have HI2 := hidK hkn
            obtain ⟨u1, hu1⟩ : ∃ u, cur[o + k * 2]'(by omega) = u := ⟨_, rfl⟩
            obtain ⟨u2, hu2⟩ : ∃ u, cur[o + k * 2 + 1]'(by omega) = u := ⟨_, rfl⟩
            rw [hu1] at e1
            rw [hu2] at e2
            clear hu1 hu2 hg hsz hBg hkn hk
            go_wp2_with fail
            go_roundw
            case rel => exact ⟨k + 1, HI2.out, by first | rfl | go_num, HKq⟩
            case measure => have := HI2.out; simp [intOf]; omega
          · obtain rfl : k = n := by omega
            go_wp2_with fail
            go_roundw
            case rel => exact ⟨i + 1, h', HI.out, by first | rfl | go_num, HKw.out.ks⟩
            case measure => have := HI.out; simp [intOf]; omega
      · obtain ⟨y0, y2, y1⟩ := nil_str hPe
        have HFe := hidK (feed_any HD0.out HTr.out HK.out.len P (by have := HPl.out; omega))
        have HRf := hidK (rfeed_any h P (by have := HK.out.len; have := HPl.out; omega))
        have hap := feed_append h P []
        rw [HK.out.held] at hap
        simp only [List.nil_append] at hap
        rw [hap] at HRf
        have hheld := feed_held (h ++ P).length (h ++ P) (Nat.le_refl _)
        rw [hap] at hheld
        have hlen := feed_len P h HK.out.len
        have hfew := feed_few P h
        obtain ⟨⟨h', ks⟩, hhk⟩ : ∃ q, feedF h P = q := ⟨_, rfl⟩
        rw [hhk] at HFe HRf hheld hlen hfew
        simp only at HRf hheld hlen hfew
        have HTo : Hid (ks.length ≤ 4000000) := by show _ ≤ _; have := HPl.out; omega
        obtain ⟨A, hA⟩ : ∃ A, str h = A := ⟨_, rfl⟩
        have HAA := hidK hA
        obtain ⟨Pb, hPb⟩ : ∃ Pb, str P = Pb := ⟨_, rfl⟩
        rw [hA, hPb] at HRf
        rw [hPb] at HFe e1 y0 y1 y2 HC0
        have HHe := hidK (And.intro hheld hlen)
        clear hA hPb hap hhk hheld hlen hfew hPe
        go_wp2_with fail
        refine HFe.out.mono ?_
        rintro e w1 ⟨lv, rfl, hf⟩
        have r1 : w1.cell? ⟨Rb, 0, none⟩ = some (.string A) := by
          have h9 : w1.heap[Rb]? = some (.cells #[.string (str h)] 26 (0, 0)) := hf.ft Rb _ _ _ HK.out.rb (by decide) (by have := HK.out.nums; omega)
          rw [← HAA.out]
          exact cell_at h9 0
        have r2 : w1.cell? ⟨g0, o0 + i, none⟩ = some (.string Pb) := HC0.out w1 (by
          obtain ⟨vq, hq⟩ := hf.dc
          exact below_ap HK.out.below hq.ap HK.out.nums.2.2.2 HK.out.nums.1)
        have HF := hidK hf
        clear hf
        have HSx : Hid (∀ Y, Below w1.heap.size w1 Y → Y.cell? ⟨Rb, 0, none⟩ = some (.string A) ∧ Y.cell? ⟨g0, o0 + i, none⟩ = some (.string Pb)) := fun Y hY => ⟨(hY.cell (World.block_lt_of_cell? w1 _ r1)).trans r1, (hY.cell (World.block_lt_of_cell? w1 _ r2)).trans r2⟩
        have HR2 : Hid (∀ Y, Below w1.heap.size w1 Y → Y.heap[Rb]? = some (.cells #[.string A] 26 (0, 0))) := fun Y hY => by
          have h9 : w1.heap[Rb]? = some (.cells #[.string (str h)] 26 (0, 0)) := HF.out.ft Rb _ _ _ HK.out.rb (by decide) (by have := HK.out.nums; omega)
          rw [← HAA.out]
          exact (hY.block Rb (lt_block h9)).trans h9
        have HBx := hidK (Below.refl w1.heap.size w1)
        clear HSx HBx
        go_wp2_with fail
        go_region_with (go_at_call 8; refine (HRf.out _).mono ?_; rintro e w2 ⟨v2, rfl, hb2, hs2, hy2⟩; have HBx : Hid (Below w1.heap.size w1 w2) := below_step (by repeat (first | exact Below.refl _ _ | apply Below.drew)) hb2; have HY2 : Hid (∀ g, v2.ownBlock = some g → w1.heap.size ≤ g) := hy2; have HS0 := hidK hs2; clear hb2 hs2 hy2; have z1 := cell_at (HR2.out _ HBx.out) 0; have z2 := free_at (HR2.out _ HBx.out) 0)
        · obtain ⟨k1, k2, k3, k4, k5, k6⟩ := HK.out.next HF.out HBx.out HS0.out HY2.out HHe.out.1 HHe.out.2
          obtain ⟨H', hH'⟩ : ∃ H' : ByteArray, str h' = H' := ⟨_, rfl⟩
          have HHs : Hid (str h' = H') := hH'
          rw [hH'] at k1 k2 k3 ⊢
          obtain ⟨w3, hw3⟩ : ∃ w3, w2.setCell ⟨Rb, 0, none⟩ (.string H') = w3 := ⟨_, rfl⟩
          rw [hw3] at k1 k2 k3
          have HKn := hidK k1
          have HL := hidK k2
          have HS2 := hidK k3
          have HSz := hidK k6
          clear k1 k2 k3 k6 HBx hH'
          obtain ⟨a1, c1, rfl⟩ := HL.out.slice
          obtain ⟨a2, c2, hv2, hsk2⟩ := id HS2.out
          subst hv2
          have HSa : Hid (∀ Y, Below w3.heap.size w3 Y → Calls Tryd.prog 9 #[.slice a1 ks.length c1, .slice a2 ks.length c2] Y fun r w' => r = .returned (.bool true) ∧ Below Y.heap.size Y w') := fun Y hY => by
            have h9 := same_any (HL.out.see.below hY) (HS2.out.below hY) HTo.out HTo.out
            rw [decide_eq_true rfl] at h9
            exact h9
          have HHd : Hid (∀ Y, Below w3.heap.size w3 Y → Calls Tryd.prog 10 #[.pointer (some ⟨d, 0, none⟩)] Y fun r w' => r = .returned (.string H') ∧ Y = w') := fun Y hY => by
            obtain ⟨vd, hvd⟩ := HKn.out.dc
            rw [← HHs.out]
            exact held_any (hvd.more hY)
          have HSx : Hid (∀ Y, Below w3.heap.size w3 Y → Y.cell? ⟨Rb, 0, none⟩ = some (.string H')) := fun Y hY => by
            rw [← HHs.out]
            exact cell_at ((hY.block Rb (lt_block HKn.out.rb)).trans HKn.out.rb) 0
          obtain ⟨n, hn⟩ : ∃ n, ks.length = n := ⟨_, rfl⟩
          have hn4 : n ≤ 4000000 := by have := HTo.out; omega
          have HLs : Hid (KeysAt w3 wr.heap.size (.slice a1 n c1) ks ∧ ks.length = n) := by rw [← hn]; exact ⟨HL.out, rfl⟩
          rw [hn] at HSa ⊢
          have HBx := hidK (Below.refl w3.heap.size w3)
          have HHq : Hid (H'.toList = H'.toList) := rfl
          clear hsk2 hn HL
          go_wp2_with fail
          refine wp_region_held_drew (S := (fun X => X.cell? ⟨Rb, 0, none⟩ = some (.string H'))) (by kernel_rfl) ?sF (fun hHeld => ?_)
          case sF => ((try dsimp only); exact HSx.out _ (by first | exact HBx.out | exact HBx.out.drew))
          have HBn := hidK HBx.out.drew
          clear HBx
          have HBx := hidK HBn.out
          clear HBn
          refine wpAnyH_take (i := 0) (oi := { dst := some 46, op := Op.move (Operand.tmp 6), type := 27, pos := "law.go:72", after := #[], guard := none }) (v := ?vF0n1) rfl (by kernel_rfl) (by kernel_rfl) (by kernel_rfl) (fun _ _ _ h => h) (Or.inl ⟨by rfl, ?yF0n1⟩) (by assumption) ?rF0n1
          case yF0n1 => (intro w hSw; (try dsimp only at hSw); first | (go_simp; done) | (go_simp; with_reducible rfl))
          try simp only [Act.put, List.setIfInBounds_toArray, List.set_cons_zero, List.set_cons_succ]
          refine wpAnyH_take (i := 1) (oi := { dst := some 47, op := Op.move (Operand.tmp 7), type := 27, pos := "law.go:72", after := #[], guard := none }) (v := ?vF1n2) rfl (by kernel_rfl) (by kernel_rfl) (by kernel_rfl) (fun _ _ _ h => h) (Or.inl ⟨by rfl, ?yF1n2⟩) (by assumption) ?rF1n2
          case yF1n2 => (intro w hSw; (try dsimp only at hSw); first | (go_simp; done) | (go_simp; with_reducible rfl))
          try simp only [Act.put, List.setIfInBounds_toArray, List.set_cons_zero, List.set_cons_succ]
          refine wpAnyH_ready (rs := [2]) (by kernel_rfl) (by simp) (AllReadyH.cons (o := { dst := some 48, op := Op.call { callee := Callee.value (Operand.func 9), args := #[Operand.tmp 46, Operand.tmp 47], argTypes := #[27, 27] }, type := 4, pos := "law.go:72", after := #[{ on := 0, ground := Ground.data }, { on := 1, ground := Ground.data }], guard := none }) rfl (fun K hK => ?bFn3q0) AllReadyH.nil)
          go_simp
          go_wp2_with (refine (HSa.out _ (by first | exact HBx.out | exact HBx.out.drew)).mono ?_; rintro e Y1 ⟨rfl, hb⟩; have HBn := hidK (below_step HBx.out hb); clear hb HBx; have HBx := hidK HBn.out; clear HBn)
          refine hK.out _ _ ?kFn3o2 (fun hHeld3 => ?_)
          case kFn3o2 => ((try dsimp only); exact HSx.out _ (by first | exact HBx.out | exact HBx.out.drew))
          clear hK K
          try simp only [Act.put, List.setIfInBounds_toArray, List.set_cons_zero, List.set_cons_succ]
          refine wpAnyH_take (i := 3) (oi := { dst := some 49, op := Op.unOp UnOp.not 4 (Operand.tmp 48), type := 4, pos := "law.go:72", after := #[{ on := 2, ground := Ground.data }], guard := none }) (v := ?vF3n4) rfl (by kernel_rfl) (by kernel_rfl) (by kernel_rfl) (fun _ _ _ h => h) (Or.inl ⟨by rfl, ?yF3n4⟩) (by assumption) ?rF3n4
          case yF3n4 => (intro w hSw; (try dsimp only at hSw); first | (go_simp; done) | (go_simp; with_reducible rfl))
          try simp only [Act.put, List.setIfInBounds_toArray, List.set_cons_zero, List.set_cons_succ]
          refine wpAnyH_take (i := 4) (oi := { dst := some 50, op := Op.move (Operand.tmp 49), type := 4, pos := "law.go:72", after := #[{ on := 3, ground := Ground.data }, { on := 2, ground := Ground.chain }], guard := none }) (v := ?vF4n5) rfl (by kernel_rfl) (by kernel_rfl) (by kernel_rfl) (fun _ _ _ h => h) (Or.inl ⟨by rfl, ?yF4n5⟩) (by assumption) ?rF4n5
          case yF4n5 => (intro w hSw; (try dsimp only at hSw); first | (go_simp; done) | (go_simp; with_reducible rfl))
          try simp only [Act.put, List.setIfInBounds_toArray, List.set_cons_zero, List.set_cons_succ]
          refine wpAnyH_take (i := 5) (oi := { dst := some 51, op := Op.move (Operand.tmp 3), type := 23, pos := "law.go:72", after := #[{ on := 4, ground := Ground.guard }], guard := some (4, false) }) (v := ?vF5n6) rfl (by kernel_rfl) (by kernel_rfl) (by kernel_rfl) (fun _ _ _ h => h) (Or.inl ⟨by rfl, ?yF5n6⟩) (by assumption) ?rF5n6
          case yF5n6 => (intro w hSw; (try dsimp only at hSw); first | (go_simp; done) | (go_simp; with_reducible rfl))
          try simp only [Act.put, List.setIfInBounds_toArray, List.set_cons_zero, List.set_cons_succ]
          refine wpAnyH_take (i := 7) (oi := { dst := some 53, op := Op.fieldAddr 26 (Operand.tmp 4) 0, type := 0, pos := "law.go:72", after := #[{ on := 4, ground := Ground.guard }], guard := some (4, false) }) (v := ?vF7n7) rfl (by kernel_rfl) (by kernel_rfl) (by kernel_rfl) (fun _ _ _ h => h) (Or.inl ⟨by rfl, ?yF7n7⟩) (by assumption) ?rF7n7
          case yF7n7 => (intro w hSw; (try dsimp only at hSw); first | (go_simp; done) | (go_simp; with_reducible rfl))
          try simp only [Act.put, List.setIfInBounds_toArray, List.set_cons_zero, List.set_cons_succ]
          refine wpAnyH_take (i := 8) (oi := { dst := some 54, op := Op.load 9 (Operand.tmp 53), type := 9, pos := "law.go:72", after := #[{ on := 7, ground := Ground.data }, { on := 4, ground := Ground.guard }], guard := some (4, false) }) (v := ?vF8n8) rfl (by kernel_rfl) (by kernel_rfl) (by kernel_rfl) (fun _ _ _ h => h) (Or.inl ⟨by rfl, ?yF8n8⟩) (by assumption) ?rF8n8
          case yF8n8 => (intro w hSw; (try dsimp only at hSw); first | (go_simp; done) | (go_simp; with_reducible rfl))
          try simp only [Act.put, List.setIfInBounds_toArray, List.set_cons_zero, List.set_cons_succ]
          refine wpAnyH_ready (rs := [6]) (by kernel_rfl) (by simp) (AllReadyH.cons (o := { dst := some 52, op := Op.call { callee := Callee.value (Operand.func 10), args := #[Operand.tmp 51], argTypes := #[23] }, type := 9, pos := "law.go:72", after := #[{ on := 5, ground := Ground.data }, { on := 4, ground := Ground.chain }, { on := 4, ground := Ground.guard }], guard := some (4, false) }) rfl (fun K hK => ?bFn9q0) AllReadyH.nil)
          go_simp
          go_wp2_with (refine (HHd.out _ (by first | exact HBx.out | exact HBx.out.drew)).mono ?_; rintro e Y2 ⟨rfl, rfl⟩)
          refine hK.out _ _ ?kFn9o6 (fun hHeld9 => ?_)
          case kFn9o6 => ((try dsimp only); exact HSx.out _ (by first | exact HBx.out | exact HBx.out.drew))
          clear hK K
          try simp only [Act.put, List.setIfInBounds_toArray, List.set_cons_zero, List.set_cons_succ]
          refine wpAnyH_take (i := 9) (oi := { dst := some 55, op := Op.binOp BinOp.neq 9 (Operand.tmp 52) (Operand.tmp 54) 9, type := 4, pos := "law.go:72", after := #[{ on := 6, ground := Ground.data }, { on := 8, ground := Ground.data }, { on := 4, ground := Ground.guard }], guard := some (4, false) }) (v := ?vF9n10) rfl (by kernel_rfl) (by kernel_rfl) (by kernel_rfl) (fun _ _ _ h => h) (Or.inl ⟨by rfl, ?yF9n10⟩) (by assumption) ?rF9n10
          case yF9n10 => (intro w hSw; (try dsimp only at hSw); first | (go_simp; done) | (go_simp; with_reducible rfl))
          try simp only [Act.put, List.setIfInBounds_toArray, List.set_cons_zero, List.set_cons_succ]
          refine wpAnyH_take (i := 10) (oi := { dst := some 56, op := Op.pick (Operand.tmp 50) (Operand.const (Value.bool true)) (Operand.tmp 55), type := 4, pos := "law.go:72", after := #[{ on := 4, ground := Ground.data }, { on := 9, ground := Ground.data }], guard := none }) (v := ?vF10n11) rfl (by kernel_rfl) (by kernel_rfl) (by kernel_rfl) (fun _ _ _ h => h) (Or.inl ⟨by rfl, ?yF10n11⟩) (by assumption) ?rF10n11
          case yF10n11 => (intro w hSw; (try dsimp only at hSw); first | (go_simp; done) | (go_simp; with_reducible rfl))
          try simp only [Act.put, List.setIfInBounds_toArray, List.set_cons_zero, List.set_cons_succ]
          refine wpAnyH_done (by kernel_rfl) ?_ _
          go_wp2_with fail
          go_loopw [8] (fun kv wx => ∃ k : Nat, k ≤ n ∧ kv = .int .i64 k ∧ Hid (Kw w B d Rb wx h' a1 n)) (fun kv _ => n - (intOf kv).toNat)
          case atStart => exact ⟨0, Nat.zero_le _, rfl, Kw.of (HKn.out.more HBx.out) (HLs.out.1.below HBx.out) (Nat.le_trans HD0.out.bs (Nat.le_refl _)) HLs.out.2⟩
          case round =>
            obtain ⟨k, hk, rfl, HKw⟩ := hrel
            by_cases hkn : k < n
            · obtain ⟨g, o, cur, rfl, hg, hsz, hBg⟩ := HKw.out.row (by omega)
              have j1 : (k : Int) < (n : Int) := by omega
              have j0 : (0 : Int) ≤ (k : Int) := by omega
              have e1 : wr.cell? ⟨g, o + k * 2, none⟩ = some (cur[o + k * 2]'(by omega)) := by rw [cell_at hg, Array.getElem?_eq_getElem (by omega)]
              have e2 : wr.cell? ⟨g, o + k * 2 + 1, none⟩ = some (cur[o + k * 2 + 1]'(by omega)) := by rw [cell_at hg, Array.getElem?_eq_getElem (by omega)]
              have f1 := free_at hg (o + k * 2)
              have f2 := free_at hg (o + k * 2 + 1)
              have HKq : Hid (Kw w B d Rb ((wr.setCell ⟨g, o + k * 2, none⟩ (.int .i64 (-1))).setCell ⟨g, o + k * 2 + 1, none⟩ (.int .i64 0)) h' (some ⟨g, o, none⟩) n) := (HKw.out.put (by omega) _ _).put (by omega) _ _
              have HI2 := hidK hkn
              obtain ⟨u1, hu1⟩ : ∃ u, cur[o + k * 2]'(by omega) = u := ⟨_, rfl⟩
              obtain ⟨u2, hu2⟩ : ∃ u, cur[o + k * 2 + 1]'(by omega) = u := ⟨_, rfl⟩
              rw [hu1] at e1
              rw [hu2] at e2
              clear hu1 hu2 hg hsz hBg hkn hk
              go_wp2_with fail
              go_roundw
              case rel => exact ⟨k + 1, HI2.out, by first | rfl | go_num, HKq⟩
              case measure => have := HI2.out; simp [intOf]; omega
            · obtain rfl : k = n := by omega
              go_wp2_with fail
              go_roundw
              case rel => exact ⟨i + 1, h', HI.out, by first | rfl | go_num, HKw.out.ks⟩
              case measure => have := HI.out; simp [intOf]; omega
        · obtain ⟨k1, k2, k3, k4, k5, k6⟩ := HK.out.next HF.out HBx.out HS0.out HY2.out HHe.out.1 HHe.out.2
          obtain ⟨H', hH'⟩ : ∃ H' : ByteArray, str h' = H' := ⟨_, rfl⟩
          have HHs : Hid (str h' = H') := hH'
          rw [hH'] at k1 k2 k3 ⊢
          obtain ⟨w3, hw3⟩ : ∃ w3, w2.setCell ⟨Rb, 0, none⟩ (.string H') = w3 := ⟨_, rfl⟩
          rw [hw3] at k1 k2 k3
          have HKn := hidK k1
          have HL := hidK k2
          have HS2 := hidK k3
          have HSz := hidK k6
          clear k1 k2 k3 k6 HBx hH'
          obtain ⟨a1, c1, rfl⟩ := HL.out.slice
          obtain ⟨a2, c2, hv2, hsk2⟩ := id HS2.out
          subst hv2
          have HSa : Hid (∀ Y, Below w3.heap.size w3 Y → Calls Tryd.prog 9 #[.slice a1 ks.length c1, .slice a2 ks.length c2] Y fun r w' => r = .returned (.bool true) ∧ Below Y.heap.size Y w') := fun Y hY => by
            have h9 := same_any (HL.out.see.below hY) (HS2.out.below hY) HTo.out HTo.out
            rw [decide_eq_true rfl] at h9
            exact h9
          have HHd : Hid (∀ Y, Below w3.heap.size w3 Y → Calls Tryd.prog 10 #[.pointer (some ⟨d, 0, none⟩)] Y fun r w' => r = .returned (.string H') ∧ Y = w') := fun Y hY => by
            obtain ⟨vd, hvd⟩ := HKn.out.dc
            rw [← HHs.out]
            exact held_any (hvd.more hY)
          have HSx : Hid (∀ Y, Below w3.heap.size w3 Y → Y.cell? ⟨Rb, 0, none⟩ = some (.string H')) := fun Y hY => by
            rw [← HHs.out]
            exact cell_at ((hY.block Rb (lt_block HKn.out.rb)).trans HKn.out.rb) 0
          obtain ⟨n, hn⟩ : ∃ n, ks.length = n := ⟨_, rfl⟩
          have hn4 : n ≤ 4000000 := by have := HTo.out; omega
          have HLs : Hid (KeysAt w3 wr.heap.size (.slice a1 n c1) ks ∧ ks.length = n) := by rw [← hn]; exact ⟨HL.out, rfl⟩
          rw [hn] at HSa ⊢
          have HBx := hidK (Below.refl w3.heap.size w3)
          have HHq : Hid (H'.toList = H'.toList) := rfl
          clear hsk2 hn HL
          go_wp2_with fail
          refine wp_region_held_drew (S := (fun X => X.cell? ⟨Rb, 0, none⟩ = some (.string H'))) (by kernel_rfl) ?sG (fun hHeld => ?_)
          case sG => ((try dsimp only); exact HSx.out _ (by first | exact HBx.out | exact HBx.out.drew))
          have HBn := hidK HBx.out.drew
          clear HBx
          have HBx := hidK HBn.out
          clear HBn
          refine wpAnyH_take (i := 0) (oi := { dst := some 46, op := Op.move (Operand.tmp 6), type := 27, pos := "law.go:72", after := #[], guard := none }) (v := ?vG0n1) rfl (by kernel_rfl) (by kernel_rfl) (by kernel_rfl) (fun _ _ _ h => h) (Or.inl ⟨by rfl, ?yG0n1⟩) (by assumption) ?rG0n1
          case yG0n1 => (intro w hSw; (try dsimp only at hSw); first | (go_simp; done) | (go_simp; with_reducible rfl))
          try simp only [Act.put, List.setIfInBounds_toArray, List.set_cons_zero, List.set_cons_succ]
          refine wpAnyH_take (i := 1) (oi := { dst := some 47, op := Op.move (Operand.tmp 7), type := 27, pos := "law.go:72", after := #[], guard := none }) (v := ?vG1n2) rfl (by kernel_rfl) (by kernel_rfl) (by kernel_rfl) (fun _ _ _ h => h) (Or.inl ⟨by rfl, ?yG1n2⟩) (by assumption) ?rG1n2
          case yG1n2 => (intro w hSw; (try dsimp only at hSw); first | (go_simp; done) | (go_simp; with_reducible rfl))
          try simp only [Act.put, List.setIfInBounds_toArray, List.set_cons_zero, List.set_cons_succ]
          refine wpAnyH_ready (rs := [2]) (by kernel_rfl) (by simp) (AllReadyH.cons (o := { dst := some 48, op := Op.call { callee := Callee.value (Operand.func 9), args := #[Operand.tmp 46, Operand.tmp 47], argTypes := #[27, 27] }, type := 4, pos := "law.go:72", after := #[{ on := 0, ground := Ground.data }, { on := 1, ground := Ground.data }], guard := none }) rfl (fun K hK => ?bGn3q0) AllReadyH.nil)
          go_simp
          go_wp2_with (refine (HSa.out _ (by first | exact HBx.out | exact HBx.out.drew)).mono ?_; rintro e Y1 ⟨rfl, hb⟩; have HBn := hidK (below_step HBx.out hb); clear hb HBx; have HBx := hidK HBn.out; clear HBn)
          refine hK.out _ _ ?kGn3o2 (fun hHeld3 => ?_)
          case kGn3o2 => ((try dsimp only); exact HSx.out _ (by first | exact HBx.out | exact HBx.out.drew))
          clear hK K
          try simp only [Act.put, List.setIfInBounds_toArray, List.set_cons_zero, List.set_cons_succ]
          refine wpAnyH_take (i := 3) (oi := { dst := some 49, op := Op.unOp UnOp.not 4 (Operand.tmp 48), type := 4, pos := "law.go:72", after := #[{ on := 2, ground := Ground.data }], guard := none }) (v := ?vG3n4) rfl (by kernel_rfl) (by kernel_rfl) (by kernel_rfl) (fun _ _ _ h => h) (Or.inl ⟨by rfl, ?yG3n4⟩) (by assumption) ?rG3n4
          case yG3n4 => (intro w hSw; (try dsimp only at hSw); first | (go_simp; done) | (go_simp; with_reducible rfl))
          try simp only [Act.put, List.setIfInBounds_toArray, List.set_cons_zero, List.set_cons_succ]
          refine wpAnyH_take (i := 4) (oi := { dst := some 50, op := Op.move (Operand.tmp 49), type := 4, pos := "law.go:72", after := #[{ on := 3, ground := Ground.data }, { on := 2, ground := Ground.chain }], guard := none }) (v := ?vG4n5) rfl (by kernel_rfl) (by kernel_rfl) (by kernel_rfl) (fun _ _ _ h => h) (Or.inl ⟨by rfl, ?yG4n5⟩) (by assumption) ?rG4n5
          case yG4n5 => (intro w hSw; (try dsimp only at hSw); first | (go_simp; done) | (go_simp; with_reducible rfl))
          try simp only [Act.put, List.setIfInBounds_toArray, List.set_cons_zero, List.set_cons_succ]
          refine wpAnyH_take (i := 5) (oi := { dst := some 51, op := Op.move (Operand.tmp 3), type := 23, pos := "law.go:72", after := #[{ on := 4, ground := Ground.guard }], guard := some (4, false) }) (v := ?vG5n6) rfl (by kernel_rfl) (by kernel_rfl) (by kernel_rfl) (fun _ _ _ h => h) (Or.inl ⟨by rfl, ?yG5n6⟩) (by assumption) ?rG5n6
          case yG5n6 => (intro w hSw; (try dsimp only at hSw); first | (go_simp; done) | (go_simp; with_reducible rfl))
          try simp only [Act.put, List.setIfInBounds_toArray, List.set_cons_zero, List.set_cons_succ]
          refine wpAnyH_take (i := 7) (oi := { dst := some 53, op := Op.fieldAddr 26 (Operand.tmp 4) 0, type := 0, pos := "law.go:72", after := #[{ on := 4, ground := Ground.guard }], guard := some (4, false) }) (v := ?vG7n7) rfl (by kernel_rfl) (by kernel_rfl) (by kernel_rfl) (fun _ _ _ h => h) (Or.inl ⟨by rfl, ?yG7n7⟩) (by assumption) ?rG7n7
          case yG7n7 => (intro w hSw; (try dsimp only at hSw); first | (go_simp; done) | (go_simp; with_reducible rfl))
          try simp only [Act.put, List.setIfInBounds_toArray, List.set_cons_zero, List.set_cons_succ]
          refine wpAnyH_take (i := 8) (oi := { dst := some 54, op := Op.load 9 (Operand.tmp 53), type := 9, pos := "law.go:72", after := #[{ on := 7, ground := Ground.data }, { on := 4, ground := Ground.guard }], guard := some (4, false) }) (v := ?vG8n8) rfl (by kernel_rfl) (by kernel_rfl) (by kernel_rfl) (fun _ _ _ h => h) (Or.inl ⟨by rfl, ?yG8n8⟩) (by assumption) ?rG8n8
          case yG8n8 => (intro w hSw; (try dsimp only at hSw); first | (go_simp; done) | (go_simp; with_reducible rfl))
          try simp only [Act.put, List.setIfInBounds_toArray, List.set_cons_zero, List.set_cons_succ]
          refine wpAnyH_ready (rs := [6]) (by kernel_rfl) (by simp) (AllReadyH.cons (o := { dst := some 52, op := Op.call { callee := Callee.value (Operand.func 10), args := #[Operand.tmp 51], argTypes := #[23] }, type := 9, pos := "law.go:72", after := #[{ on := 5, ground := Ground.data }, { on := 4, ground := Ground.chain }, { on := 4, ground := Ground.guard }], guard := some (4, false) }) rfl (fun K hK => ?bGn9q0) AllReadyH.nil)
          go_simp
          go_wp2_with (refine (HHd.out _ (by first | exact HBx.out | exact HBx.out.drew)).mono ?_; rintro e Y2 ⟨rfl, rfl⟩)
          refine hK.out _ _ ?kGn9o6 (fun hHeld9 => ?_)
          case kGn9o6 => ((try dsimp only); exact HSx.out _ (by first | exact HBx.out | exact HBx.out.drew))
          clear hK K
          try simp only [Act.put, List.setIfInBounds_toArray, List.set_cons_zero, List.set_cons_succ]
          refine wpAnyH_take (i := 9) (oi := { dst := some 55, op := Op.binOp BinOp.neq 9 (Operand.tmp 52) (Operand.tmp 54) 9, type := 4, pos := "law.go:72", after := #[{ on := 6, ground := Ground.data }, { on := 8, ground := Ground.data }, { on := 4, ground := Ground.guard }], guard := some (4, false) }) (v := ?vG9n10) rfl (by kernel_rfl) (by kernel_rfl) (by kernel_rfl) (fun _ _ _ h => h) (Or.inl ⟨by rfl, ?yG9n10⟩) (by assumption) ?rG9n10
          case yG9n10 => (intro w hSw; (try dsimp only at hSw); first | (go_simp; done) | (go_simp; with_reducible rfl))
          try simp only [Act.put, List.setIfInBounds_toArray, List.set_cons_zero, List.set_cons_succ]
          refine wpAnyH_take (i := 10) (oi := { dst := some 56, op := Op.pick (Operand.tmp 50) (Operand.const (Value.bool true)) (Operand.tmp 55), type := 4, pos := "law.go:72", after := #[{ on := 4, ground := Ground.data }, { on := 9, ground := Ground.data }], guard := none }) (v := ?vG10n11) rfl (by kernel_rfl) (by kernel_rfl) (by kernel_rfl) (fun _ _ _ h => h) (Or.inl ⟨by rfl, ?yG10n11⟩) (by assumption) ?rG10n11
          case yG10n11 => (intro w hSw; (try dsimp only at hSw); first | (go_simp; done) | (go_simp; with_reducible rfl))
          try simp only [Act.put, List.setIfInBounds_toArray, List.set_cons_zero, List.set_cons_succ]
          refine wpAnyH_done (by kernel_rfl) ?_ _
          go_wp2_with fail
          go_loopw [8] (fun kv wx => ∃ k : Nat, k ≤ n ∧ kv = .int .i64 k ∧ Hid (Kw w B d Rb wx h' a1 n)) (fun kv _ => n - (intOf kv).toNat)
          case atStart => exact ⟨0, Nat.zero_le _, rfl, Kw.of (HKn.out.more HBx.out) (HLs.out.1.below HBx.out) (Nat.le_trans HD0.out.bs (Nat.le_refl _)) HLs.out.2⟩
          case round =>
            obtain ⟨k, hk, rfl, HKw⟩ := hrel
            by_cases hkn : k < n
            · obtain ⟨g, o, cur, rfl, hg, hsz, hBg⟩ := HKw.out.row (by omega)
              have j1 : (k : Int) < (n : Int) := by omega
              have j0 : (0 : Int) ≤ (k : Int) := by omega
              have e1 : wr.cell? ⟨g, o + k * 2, none⟩ = some (cur[o + k * 2]'(by omega)) := by rw [cell_at hg, Array.getElem?_eq_getElem (by omega)]
              have e2 : wr.cell? ⟨g, o + k * 2 + 1, none⟩ = some (cur[o + k * 2 + 1]'(by omega)) := by rw [cell_at hg, Array.getElem?_eq_getElem (by omega)]
              have f1 := free_at hg (o + k * 2)
              have f2 := free_at hg (o + k * 2 + 1)
              have HKq : Hid (Kw w B d Rb ((wr.setCell ⟨g, o + k * 2, none⟩ (.int .i64 (-1))).setCell ⟨g, o + k * 2 + 1, none⟩ (.int .i64 0)) h' (some ⟨g, o, none⟩) n) := (HKw.out.put (by omega) _ _).put (by omega) _ _
              have HI2 := hidK hkn
              obtain ⟨u1, hu1⟩ : ∃ u, cur[o + k * 2]'(by omega) = u := ⟨_, rfl⟩
              obtain ⟨u2, hu2⟩ : ∃ u, cur[o + k * 2 + 1]'(by omega) = u := ⟨_, rfl⟩
              rw [hu1] at e1
              rw [hu2] at e2
              clear hu1 hu2 hg hsz hBg hkn hk
              go_wp2_with fail
              go_roundw
              case rel => exact ⟨k + 1, HI2.out, by first | rfl | go_num, HKq⟩
              case measure => have := HI2.out; simp [intOf]; omega
            · obtain rfl : k = n := by omega
              go_wp2_with fail
              go_roundw
              case rel => exact ⟨i + 1, h', HI.out, by first | rfl | go_num, HKw.out.ks⟩
              case measure => have := HI.out; simp [intOf]; omega
    · obtain rfl : i = N := by omega
      have HSu := hidK (sure_any (HTT.out.below HK.out.below))
      go_wp2_with fail
      refine HSu.out.mono ?_
      rintro e w9 ⟨rfl, hb9⟩
      have HB9 := hidK (below_step HK.out.below hb9)
      clear hb9
      go_wp2_with fail
      go_ret
      exact ⟨rfl, by first | exact HB9.out | exact HPz.out _ HB9.out⟩
end Go.Proofs.YtnehkokppobncaaDoor
