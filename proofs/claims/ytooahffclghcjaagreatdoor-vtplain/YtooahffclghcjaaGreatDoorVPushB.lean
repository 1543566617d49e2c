/-
  A row joins the history.
-/
import Derived.Test.YtooahffclghcjaaGreatDoorVPush
import Derived.Deep.RegionLaw
import Derived.BigQuiet
namespace Go.Proofs.YtooahffclghcjaaGreatDoor
open Go.RowKit
set_option linter.unusedVariables false
set_option maxRecDepth 100000

theorem Scr.pushed {w0 X w2 : World} {b : Nat} {s : Sc} {G : Nat} {rs : List (Nat × List Gl)} {hs : List (Value × List Gl)} {v2 vc : Value} {gs : List Gl} (h : Scr w0 X b s G rs hs) (hc : Row X 85 5 vc gs.length (glsV gs)) (hy : ∀ g, vc.ownBlock = some g → w0.heap.size ≤ g ∧ g ∉ b :: G :: rs.map Prod.fst) (hr : Row w2 81 1 v2 (hs.length + 1) (hs.map Prod.fst ++ [vc])) (hg : Grown X w2 s.past v2 s.past.ownBlock.toList) :
    (w2.cell? ⟨b, 39, none⟩ = some s.past ∧ w2.frozen? ⟨b, 39, none⟩ = false) ∧ Scr w0 (w2.setCell ⟨b, 39, none⟩ v2) b { s with past := v2 } G rs (hs ++ [(vc, gs)]) := by
  have hav : ∀ k ∈ b :: G :: rs.map Prod.fst, k ∉ s.past.ownBlock.toList := fun k hk hm => (h.hist.yv k (by simpa using hm)).2 hk
  have hk : ∀ k ∈ b :: G :: rs.map Prod.fst, w2.heap[k]? = X.heap[k]? := fun k hk => hg.but.block k (h.av k hk) (hav k hk)
  have hS2 : ScAt w2 b s := h.scn.at_.keep (hk b (by simp))
  have hR2 : RowsAt w2 G rs 0 := h.scn.rows.keep (hk G (by simp)) (fun r hr => hk r.1 (by simp only [List.mem_cons, List.mem_map]; exact .inr (.inr ⟨r, hr, rfl⟩)))
  have hH2 := h.hist.grow h.below.size h.av hc hy hr hg
  have hb2 : Below w0.heap.size w0 w2 := hg.but.under h.below h.below.size (fun k hk => (h.hist.yv k (by simpa using hk)).1)
  have hbG := hS2.neG hR2
  refine ⟨⟨hS2.c39, hS2.free 39⟩, ⟨.fin (put_at hS2 39 _) (by rfl), hR2.but (But.one 39 _) (by simpa using hbG.symm) (fun r hr => by simpa using (hS2.ne (hR2.row r hr)).symm), h.scn.val⟩, ?_, hb2.setCell (p := ⟨b, 39, none⟩) (h.young b (by simp)) _, h.young⟩
  exact hH2.but (But.one 39 _) (fun k hk => by simp at hk; simp [hk])
/-- What is kept. -/
def kept (lim : Nat) (l : List (List Gl)) (t : List Gl) : List (List Gl) := if lim = 0 then l else (if l.length = lim then l.drop 1 else l) ++ [t]
set_option maxHeartbeats 4000000 in
theorem push_any {w0 w : World} {b : Nat} {s : Sc} {G : Nat} {rs : List (Nat × List Gl)} {hs : List (Value × List Gl)} (h : Scr w0 w b s G rs hs) (lim : Nat) (hlim : s.lim = (lim : Int)) (hl2 : lim ≤ 2000) (hlen : hs.length ≤ lim) {r : Nat × List Gl} (hr : r ∈ rs) (hrl : r.2.length ≤ 1000) : Calls Tryz.prog 92 #[.pointer (some ⟨b, 38, none⟩), .slice (some ⟨r.1, 0, none⟩) r.2.length r.2.length] w fun x w' => x = .returned (.tuple #[]) ∧ ∃ v hs', hs'.map Prod.snd = kept lim (hs.map Prod.snd) r.2 ∧ hs'.length ≤ lim ∧ Scr w0 w' b { s with past := v } G rs hs' ∧ But (s.past.ownBlock.toList ++ (b :: G :: rs.map Prod.fst)) w w' := by
  have HS := hidK h
  have c38 := h.scn.at_.c38
  have c39 := h.scn.at_.c39
  rw [hlim] at c38
  have hgr := h.scn.rows.row r hr
  have HG : Hid (∀ W, W.heap[r.1]? = w.heap[r.1]? → GAt W r.1 r.2) := fun W hW => hgr.keep hW
  have Hrv := hidK hr
  have hRow := h.hist.row
  obtain ⟨pa, cap, hpe, hcp1, hcp2, hnil, hcell⟩ := hRow.shape
  have HPe := hidK hpe
  rw [hpe] at c39
  by_cases h0 : lim = 0
  · have hz : (lim : Int) = 0 := by omega
    rw [hz] at c38
    clear hgr hRow hcell hnil hcp1 hcp2
    go_enter Tryz.func92, Tryz.ntmps92
    go_wp2_with fail
    (try simp only [Exit.inBlock, Exit.then])
    refine bodyPost_ret (results_none rfl _ _ _) rfl ?_
    exact ⟨rfl, s.past, hs, by unfold kept; rw [if_pos h0], hlen, HS.out, But.refl _ _⟩
  have hz : ¬ (lim : Int) = 0 := by omega
  have HCl : Hid (∀ W, GAt W r.1 r.2 → Calls Tryz.prog 108 #[.slice (some ⟨r.1, 0, none⟩) r.2.length r.2.length] W fun x w' => ∃ v, x = .returned v ∧ Mine W w' 85 5 v r.2.length (glsV r.2)) := fun W hW => clone_row hW hrl
  obtain ⟨n, hne⟩ : ∃ n, hs.length = n := ⟨_, rfl⟩
  have HN := hidK hne
  rw [hne] at c39 HPe hlen
  by_cases hn : n = lim
  · cases hs with
    | nil => simp at hne; omega
    | cons x hs =>
      cases pa with
      | none => have := (hnil rfl).1; simp at this
      | some a =>
        obtain ⟨g, o, rfl, hown, hgl, hce⟩ := hcell a rfl
        have cg0 := (hce w rfl).1 0 x.1 rfl
        rw [Nat.add_zero] at cg0
        have fg0 := (hce w rfl).2 o
        have hgav := h.hist.yv g (by rw [hpe]; rfl)
        have hgb : g ≠ b := fun e => hgav.2 (by rw [e]; simp)
        have hbg : b ≠ g := hgb.symm
        obtain ⟨j, hj⟩ : ∃ j, hs.length = j := ⟨_, rfl⟩
        have HJ := hidK hj
        have hnj : n = j + 1 := by simp at hne; omega
        have hjc : j + 1 ≤ cap := by simp at hcp1; omega
        obtain ⟨cp, rfl⟩ : ∃ cp, cap = cp + 1 := ⟨cap - 1, by omega⟩
        subst hnj
        subst hn
        have f39 := h.scn.at_.free 39
        have HFa : Hid (∀ X, Below w.heap.size w X → X.cell? ⟨g, o, none⟩ = some x.1 ∧ X.frozen? ⟨g, o, none⟩ = false ∧ X.cell? ⟨b, 39, none⟩ = some (.slice (some ⟨g, o, none⟩) (j + 1) (cp + 1)) ∧ X.frozen? ⟨b, 39, none⟩ = false) := fun X hX => by
          have h1 := hce X (hX.block g hgl)
          have h2 := h1.1 0 x.1 rfl
          rw [Nat.add_zero] at h2
          have h3 := (h.more hX).scn.at_.c39
          rw [hpe] at h3
          exact ⟨h2, h1.2 o, by simpa [hj] using h3, (h.more hX).scn.at_.free 39⟩
        have HDr : Hid (∀ X, Below w.heap.size w X → ∀ v, v = .slice (some ⟨g, o + 1, none⟩) j cp ∨ (cp = 0 ∧ v = .slice (some ⟨g, o, none⟩) 0 0) → Scr w0 ((X.setCell ⟨g, o, none⟩ (.slice none 0 0)).setCell ⟨b, 39, none⟩ v) b { s with past := v } G rs hs) := fun X hX v hv => by
          have hm := h.more hX
          have h1 := hm.hist
          rw [hpe] at h1
          have hd := h1.drop v (by rw [hj]; rcases hv with e | ⟨e1, e2⟩; exact .inl e; exact .inr ⟨by omega, e2⟩)
          have hkk : ∀ k ∈ b :: G :: rs.map Prod.fst, (X.setCell ⟨g, o, none⟩ (.slice none 0 0)).heap[k]? = X.heap[k]? := fun k hk => Below.heap_setCell _ _ _ _ (fun e => hgav.2 (by have e2 : k = g := e; rw [← e2]; exact hk))
          have hS2 : ScAt (X.setCell ⟨g, o, none⟩ (.slice none 0 0)) b s := hm.scn.at_.keep (hkk b (by simp))
          have hR2 : RowsAt (X.setCell ⟨g, o, none⟩ (.slice none 0 0)) G rs 0 := hm.scn.rows.keep (hkk G (by simp)) (fun r hr => hkk r.1 (by simp only [List.mem_cons, List.mem_map]; exact .inr (.inr ⟨r, hr, rfl⟩)))
          have hbG := hS2.neG hR2
          refine ⟨⟨.fin (put_at hS2 39 _) (by rfl), hR2.but (But.one 39 _) (by simpa using hbG.symm) (fun r hr => by simpa using (hS2.ne (hR2.row r hr)).symm), h.scn.val⟩, ?_, ?_, h.young⟩
          · exact hd.but (But.one 39 _) (fun k hk => by simp at hk; simp [hk])
          · exact (hm.below.setCell (p := ⟨g, o, none⟩) hgav.1 _).setCell (p := ⟨b, 39, none⟩) (h.young b (by simp)) _
        clear h hpe hgr hRow hcell hnil hcp1 hcp2 hown hgl hce hgav hr
        cases cp with
        | zero =>
          obtain rfl : j = 0 := by omega
          go_enter Tryz.func92, Tryz.ntmps92
          go_wp2_with fail
          go_quiet (fail)
          refine gen_exit (fun X => Below w.heap.size w X) (below_drewN _ _) ?_
          intro X hX
          have HXb := hidK hX
          clear c38 c39 cg0 fg0 f39
          obtain ⟨x1, x2, x3, x4⟩ := HFa.out X hX
          clear hX
          go_wp2_with fail
          have HX := hidK (HDr.out X HXb.out (.slice (some ⟨g, o, none⟩) 0 0) (.inr ⟨by trivial, rfl⟩))
          obtain ⟨Y, hY⟩ : ∃ Y, (X.setCell ⟨g, o, none⟩ (.slice none 0 0)).setCell ⟨b, 39, none⟩ (.slice (some ⟨g, o, none⟩) 0 0) = Y := ⟨_, rfl⟩
          rw [hY] at HX
          have HXY : Hid (But ((Value.slice (some ⟨g, o, none⟩) (0 + 1) (0 + 1)).ownBlock.toList ++ (b :: G :: rs.map Prod.fst)) w Y) := by
            rw [← hY]
            exact ((But.of HXb.out).setCell (p := ⟨g, o, none⟩) (.inl (List.mem_append_left _ (by simp [Value.ownBlock]))) _).setCell (p := ⟨b, 39, none⟩) (.inl (List.mem_append_right _ (by simp))) _
          obtain ⟨S, hSe⟩ : ∃ S : Sc, { s with past := .slice (some ⟨g, o, none⟩) 0 0 } = S := ⟨_, rfl⟩
          have HPt : Hid (S.past = .slice (some ⟨g, o, none⟩) 0 0) := by rw [← hSe]; exact hidK rfl
          have HSe := hidK hSe
          have HNt : Hid (hs.length = 0) := hidK HJ.out
          rw [hSe] at HX
          have c39 := HX.out.scn.at_.c39
          rw [HPt.out] at c39
          rw [hY]
          clear x1 x2 x3 x4 hY hSe hj HFa HDr
          have HClX : Hid (Calls Tryz.prog 108 #[.slice (some ⟨r.1, 0, none⟩) r.2.length r.2.length] Y.drew fun x w' => ∃ v, x = .returned v ∧ Mine Y.drew w' 85 5 v r.2.length (glsV r.2)) := HCl.out _ (HX.out.scn.rows.row r Hrv.out)
          go_wp2_with fail
          go_region_law (first
            | (refine step_append_row (w1.alloc (.cells #[.slice ca r.2.length cc] 81)) rfl (.tmp 36) (.tmp 39) 40 40 rfl underRows infoRow rfl (v := .slice (some ⟨g, o, none⟩) 0 0) (by simp [Act.eval]) (u := .slice (some ⟨w1.heap.size, 0, none⟩) 1 1) (by simp [Act.eval]) HA.out.2 (Src.block underRows _ _ [.slice ca r.2.length cc] 81 1 (heap_alloc_new w1 _) rfl rfl) (by omega) (by unfold maxLen; omega) ?_; intro v2 w2 hr2 hg2; obtain ⟨ad2, cap2, hv2, _, _, _, _⟩ := hr2.out.shape; have hpu := HA.out.1.pushed HC1.out.1 HC1.out.2 (by have e := HNt.out; rw [e]; exact hr2.out) (by have e := HPt.out; rw [e]; exact hg2.out); have HP2 := hidK hpu.2; have HBt : Hid (But (.slice (some ⟨g, o, none⟩) 0 0 : Value).ownBlock.toList Y w2) := (But.of HBd.out).trans hg2.out.but; have pp1 := hpu.1.1; have pp2 := hpu.1.2; rw [HPt.out] at pp1; clear hpu hr2 hg2; subst hv2)
            | (go_simp; go_at_call 108; refine HClX.out.mono ?_; rintro e w1 ⟨vc, rfl, hM⟩; obtain ⟨ca, cc, hce, _, _, _, _⟩ := hM.row.shape; subst hce; have hbd : Below Y.heap.size Y w1 := (Below.drew (Below.refl _ _)).trans hM.below; have hba : Below w1.heap.size w1 (w1.alloc (.cells #[.slice ca r.2.length cc] 81)) := (Below.refl _ _).alloc (Nat.le_refl _) _; have hA1 := (HX.out.more hbd).more hba; have HBd : Hid (Below Y.heap.size Y (w1.alloc (.cells #[.slice ca r.2.length cc] 81))) := hbd.trans (hba.mono hbd.size); have HA : Hid (Scr w0 (w1.alloc (.cells #[.slice ca r.2.length cc] 81)) b S G rs hs ∧ Row (w1.alloc (.cells #[.slice ca r.2.length cc] 81)) 81 1 (.slice (some ⟨g, o, none⟩) 0 0) 0 (hs.map Prod.fst)) := ⟨hA1, by have h9 := hA1.hist.row; rw [HPt.out, HNt.out] at h9; exact h9⟩; have HC1 : Hid (Row (w1.alloc (.cells #[.slice ca r.2.length cc] 81)) 85 5 (.slice ca r.2.length cc) r.2.length (glsV r.2) ∧ ∀ g, (Value.slice ca r.2.length cc).ownBlock = some g → w0.heap.size ≤ g ∧ g ∉ b :: G :: rs.map Prod.fst) := ⟨hM.row.below hba, fun g hg => ⟨Nat.le_trans HX.out.below.size (hM.young g hg), fun hm => by have h8 := HX.out.av g hm; have h9 : Y.heap.size ≤ g := hM.young g hg; omega⟩⟩; have d39 : w1.cell? ⟨b, 39, none⟩ = some (.slice (some ⟨g, o, none⟩) 0 0) := (by have h9 := (HX.out.more hbd).scn.at_.c39; rw [HPt.out] at h9; exact h9); have d39b : (w1.alloc (.cells #[.slice ca r.2.length cc] 81)).cell? ⟨b, 39, none⟩ = some (.slice (some ⟨g, o, none⟩) 0 0) := (by have h9 := HA.out.1.scn.at_.c39; rw [HPt.out] at h9; exact h9); clear hM hbd hba hA1))
          all_goals (
            go_wp2_with fail
            go_end0
            refine ⟨rfl, _, _, ?_, ?_, (by have h9 := HP2.out; rw [← HSe.out] at h9; exact h9), ?_⟩
            · rw [List.map_append]
              unfold kept
              rw [if_neg h0, if_pos (by rw [List.length_map]; exact HN.out)]
              rfl
            · rw [List.length_append, HNt.out]
              simp
            · rw [HPe.out]
              refine But.setCell (p := ⟨b, 39, none⟩) (HXY.out.trans (HBt.out.mono (fun k _ hk => List.mem_append_left _ hk))) (.inl (List.mem_append_right _ (by simp))) _)
        | succ cp =>
          have hjc2 := hjc
          go_enter Tryz.func92, Tryz.ntmps92
          go_wp2_with fail
          go_quiet (fail)
          refine gen_exit (fun X => Below w.heap.size w X) (below_drewN _ _) ?_
          intro X hX
          have HXb := hidK hX
          clear c38 c39 cg0 fg0 f39
          obtain ⟨x1, x2, x3, x4⟩ := HFa.out X hX
          clear hX
          go_wp2_with fail
          have HX := hidK (HDr.out X HXb.out (.slice (some ⟨g, o + 1, none⟩) j (cp + 1)) (.inl rfl))
          obtain ⟨Y, hY⟩ : ∃ Y, (X.setCell ⟨g, o, none⟩ (.slice none 0 0)).setCell ⟨b, 39, none⟩ (.slice (some ⟨g, o + 1, none⟩) j (cp + 1)) = Y := ⟨_, rfl⟩
          rw [hY] at HX
          have HXY : Hid (But ((Value.slice (some ⟨g, o, none⟩) (j + 1) (cp + 1 + 1)).ownBlock.toList ++ (b :: G :: rs.map Prod.fst)) w Y) := by
            rw [← hY]
            exact ((But.of HXb.out).setCell (p := ⟨g, o, none⟩) (.inl (List.mem_append_left _ (by simp [Value.ownBlock]))) _).setCell (p := ⟨b, 39, none⟩) (.inl (List.mem_append_right _ (by simp))) _
          obtain ⟨S, hSe⟩ : ∃ S : Sc, { s with past := .slice (some ⟨g, o + 1, none⟩) j (cp + 1) } = S := ⟨_, rfl⟩
          have HPt : Hid (S.past = .slice (some ⟨g, o + 1, none⟩) j (cp + 1)) := by rw [← hSe]; exact hidK rfl
          have HSe := hidK hSe
          have HNt : Hid (hs.length = j) := hidK HJ.out
          rw [hSe] at HX
          have c39 := HX.out.scn.at_.c39
          rw [HPt.out] at c39
          rw [hY]
          clear x1 x2 x3 x4 hY hSe hj HFa HDr
          have HClX : Hid (Calls Tryz.prog 108 #[.slice (some ⟨r.1, 0, none⟩) r.2.length r.2.length] Y.drew fun x w' => ∃ v, x = .returned v ∧ Mine Y.drew w' 85 5 v r.2.length (glsV r.2)) := HCl.out _ (HX.out.scn.rows.row r Hrv.out)
          go_wp2_with fail
          go_region_law (first
            | (refine step_append_row (w1.alloc (.cells #[.slice ca r.2.length cc] 81)) rfl (.tmp 36) (.tmp 39) 40 40 rfl underRows infoRow rfl (v := .slice (some ⟨g, o + 1, none⟩) j (cp + 1)) (by simp [Act.eval]) (u := .slice (some ⟨w1.heap.size, 0, none⟩) 1 1) (by simp [Act.eval]) HA.out.2 (Src.block underRows _ _ [.slice ca r.2.length cc] 81 1 (heap_alloc_new w1 _) rfl rfl) (by omega) (by unfold maxLen; omega) ?_; intro v2 w2 hr2 hg2; obtain ⟨ad2, cap2, hv2, _, _, _, _⟩ := hr2.out.shape; have hpu := HA.out.1.pushed HC1.out.1 HC1.out.2 (by have e := HNt.out; rw [e]; exact hr2.out) (by have e := HPt.out; rw [e]; exact hg2.out); have HP2 := hidK hpu.2; have HBt : Hid (But (.slice (some ⟨g, o + 1, none⟩) j (cp + 1) : Value).ownBlock.toList Y w2) := (But.of HBd.out).trans hg2.out.but; have pp1 := hpu.1.1; have pp2 := hpu.1.2; rw [HPt.out] at pp1; clear hpu hr2 hg2; subst hv2)
            | (go_simp; go_at_call 108; refine HClX.out.mono ?_; rintro e w1 ⟨vc, rfl, hM⟩; obtain ⟨ca, cc, hce, _, _, _, _⟩ := hM.row.shape; subst hce; have hbd : Below Y.heap.size Y w1 := (Below.drew (Below.refl _ _)).trans hM.below; have hba : Below w1.heap.size w1 (w1.alloc (.cells #[.slice ca r.2.length cc] 81)) := (Below.refl _ _).alloc (Nat.le_refl _) _; have hA1 := (HX.out.more hbd).more hba; have HBd : Hid (Below Y.heap.size Y (w1.alloc (.cells #[.slice ca r.2.length cc] 81))) := hbd.trans (hba.mono hbd.size); have HA : Hid (Scr w0 (w1.alloc (.cells #[.slice ca r.2.length cc] 81)) b S G rs hs ∧ Row (w1.alloc (.cells #[.slice ca r.2.length cc] 81)) 81 1 (.slice (some ⟨g, o + 1, none⟩) j (cp + 1)) j (hs.map Prod.fst)) := ⟨hA1, by have h9 := hA1.hist.row; rw [HPt.out, HNt.out] at h9; exact h9⟩; have HC1 : Hid (Row (w1.alloc (.cells #[.slice ca r.2.length cc] 81)) 85 5 (.slice ca r.2.length cc) r.2.length (glsV r.2) ∧ ∀ g, (Value.slice ca r.2.length cc).ownBlock = some g → w0.heap.size ≤ g ∧ g ∉ b :: G :: rs.map Prod.fst) := ⟨hM.row.below hba, fun g hg => ⟨Nat.le_trans HX.out.below.size (hM.young g hg), fun hm => by have h8 := HX.out.av g hm; have h9 : Y.heap.size ≤ g := hM.young g hg; omega⟩⟩; have d39 : w1.cell? ⟨b, 39, none⟩ = some (.slice (some ⟨g, o + 1, none⟩) j (cp + 1)) := (by have h9 := (HX.out.more hbd).scn.at_.c39; rw [HPt.out] at h9; exact h9); have d39b : (w1.alloc (.cells #[.slice ca r.2.length cc] 81)).cell? ⟨b, 39, none⟩ = some (.slice (some ⟨g, o + 1, none⟩) j (cp + 1)) := (by have h9 := HA.out.1.scn.at_.c39; rw [HPt.out] at h9; exact h9); clear hM hbd hba hA1))
          all_goals (
            go_wp2_with fail
            go_end0
            refine ⟨rfl, _, _, ?_, ?_, (by have h9 := HP2.out; rw [← HSe.out] at h9; exact h9), ?_⟩
            · rw [List.map_append]
              unfold kept
              rw [if_neg h0, if_pos (by rw [List.length_map]; exact HN.out)]
              rfl
            · rw [List.length_append, HNt.out]
              simp
            · rw [HPe.out]
              refine But.setCell (p := ⟨b, 39, none⟩) (HXY.out.trans (HBt.out.mono (fun k _ hk => List.mem_append_left _ hk))) (.inl (List.mem_append_right _ (by simp))) _)
  · have hni : ¬ (n : Int) = (lim : Int) := by omega
    have HX := hidK h
    have HPt := HPe
    have HNt := HN
    clear h hpe hgr hRow hcell hnil hcp1 hcp2 hr hne
    go_enter Tryz.func92, Tryz.ntmps92
    go_wp2_with fail
    go_quiet (fail)
    refine gen_exit (fun X => Below w.heap.size w X) (below_drewN _ _) ?_
    intro X hX
    have HXb := hidK hX
    have HXX := hidK (HX.out.more hX)
    clear HX
    have HX := hidK HXX.out
    clear HXX c38 c39
    have c39 := HX.out.scn.at_.c39
    rw [HPt.out] at c39
    clear hX
    have HClX : Hid (Calls Tryz.prog 108 #[.slice (some ⟨r.1, 0, none⟩) r.2.length r.2.length] X.drew fun x w' => ∃ v, x = .returned v ∧ Mine X.drew w' 85 5 v r.2.length (glsV r.2)) := HCl.out _ (HX.out.scn.rows.row r Hrv.out)
    go_wp2_with fail
    go_region_law (first
      | (refine step_append_row (w1.alloc (.cells #[.slice ca r.2.length cc] 81)) rfl (.tmp 36) (.tmp 39) 40 40 rfl underRows infoRow rfl (v := .slice pa n cap) (by simp [Act.eval]) (u := .slice (some ⟨w1.heap.size, 0, none⟩) 1 1) (by simp [Act.eval]) HA.out.2 (Src.block underRows _ _ [.slice ca r.2.length cc] 81 1 (heap_alloc_new w1 _) rfl rfl) (by omega) (by unfold maxLen; omega) ?_; intro v2 w2 hr2 hg2; obtain ⟨ad2, cap2, hv2, _, _, _, _⟩ := hr2.out.shape; have hpu := HA.out.1.pushed HC1.out.1 HC1.out.2 (by have e := HNt.out; rw [e]; exact hr2.out) (by have e := HPt.out; rw [e]; exact hg2.out); have HP2 := hidK hpu.2; have HBt : Hid (But (.slice pa n cap : Value).ownBlock.toList X w2) := (But.of HBd.out).trans hg2.out.but; have pp1 := hpu.1.1; have pp2 := hpu.1.2; rw [HPt.out] at pp1; clear hpu hr2 hg2; subst hv2)
      | (go_simp; go_at_call 108; refine HClX.out.mono ?_; rintro e w1 ⟨vc, rfl, hM⟩; obtain ⟨ca, cc, hce, _, _, _, _⟩ := hM.row.shape; subst hce; have hbd : Below X.heap.size X w1 := (Below.drew (Below.refl _ _)).trans hM.below; have hba : Below w1.heap.size w1 (w1.alloc (.cells #[.slice ca r.2.length cc] 81)) := (Below.refl _ _).alloc (Nat.le_refl _) _; have hA1 := (HX.out.more hbd).more hba; have HBd : Hid (Below X.heap.size X (w1.alloc (.cells #[.slice ca r.2.length cc] 81))) := hbd.trans (hba.mono hbd.size); have HA : Hid (Scr w0 (w1.alloc (.cells #[.slice ca r.2.length cc] 81)) b s G rs hs ∧ Row (w1.alloc (.cells #[.slice ca r.2.length cc] 81)) 81 1 (.slice pa n cap) n (hs.map Prod.fst)) := ⟨hA1, by have h9 := hA1.hist.row; rw [HPt.out, HNt.out] at h9; exact h9⟩; have HC1 : Hid (Row (w1.alloc (.cells #[.slice ca r.2.length cc] 81)) 85 5 (.slice ca r.2.length cc) r.2.length (glsV r.2) ∧ ∀ g, (Value.slice ca r.2.length cc).ownBlock = some g → w0.heap.size ≤ g ∧ g ∉ b :: G :: rs.map Prod.fst) := ⟨hM.row.below hba, fun g hg => ⟨Nat.le_trans HX.out.below.size (hM.young g hg), fun hm => by have h8 := HX.out.av g hm; have h9 : X.heap.size ≤ g := hM.young g hg; omega⟩⟩; have d39 : w1.cell? ⟨b, 39, none⟩ = some (.slice pa n cap) := (by have h9 := (HX.out.more hbd).scn.at_.c39; rw [HPt.out] at h9; exact h9); have d39b : (w1.alloc (.cells #[.slice ca r.2.length cc] 81)).cell? ⟨b, 39, none⟩ = some (.slice pa n cap) := (by have h9 := HA.out.1.scn.at_.c39; rw [HPt.out] at h9; exact h9); clear hM hbd hba hA1))
    all_goals (
      go_wp2_with fail
      go_end0
      refine ⟨rfl, _, _, ?_, ?_, HP2.out, ?_⟩
      · rw [List.map_append]
        unfold kept
        rw [if_neg h0, if_neg (by rw [List.length_map, HNt.out]; exact hn)]
        rfl
      · rw [List.length_append, HNt.out]
        simp
        omega
      · rw [HPt.out]
        refine But.setCell (p := ⟨b, 39, none⟩) ((But.of HXb.out).trans (HBt.out.mono (fun k _ hk => List.mem_append_left _ hk))) (.inl (List.mem_append_right _ (by simp))) _)
end Go.Proofs.YtooahffclghcjaaGreatDoor
