/-
  The lines of a screen that shows lines of letters.
-/
import Derived.Test.YtooahffclghcjaaGreatDoorVTxtC
import Derived.Test.YtooahffclghcjaaGreatDoorVLin
namespace Go.Proofs.YtooahffclghcjaaGreatDoor
open Go.RowKit
set_option linter.unusedVariables false
set_option maxRecDepth 100000

/-- No list but lists of texts turns. -/
def Kp (w w' : World) : Prop := ∀ T k q n xs, T ≠ 9 → Row w T k q n xs → Row w' T k q n xs
theorem Kp.refl (w : World) : Kp w w := fun _ _ _ _ _ _ h => h
theorem Kp.more {w wr w' : World} (h : Kp w wr) (hb : Below wr.heap.size wr w') : Kp w w' := fun T k q n xs hT hr => (h T k q n xs hT hr).below hb
theorem Kp.grown {w X w' : World} {v v' : Value} {m : Nat} {ys : List Value} (h : Kp w X) (hv : Row X 9 1 v m ys) (hg : Grown X w' v v' v.ownBlock.toList) : Kp w w' := fun T k q n xs hT hr => (h T k q n xs hT hr).but hg.but (fun g hgq hm => by
  obtain ⟨cur, hc⟩ := (h T k q n xs hT hr).block hgq
  obtain ⟨cur2, hc2⟩ := hv.block (by simpa using hm : v.ownBlock = some g)
  rw [hc] at hc2
  simp only [Option.some.injEq, Obj.cells.injEq] at hc2
  exact hT hc2.2.1)
def strs (ts : List (List UInt8)) : List Value := ts.map (fun t => .string (str t))
theorem Row.elems {w : World} {T : TypeId} {v : Value} {m : Nat} {vals : List Value} (h : Row w T 1 v m vals) : ∃ ad cap, v = .slice ad m cap ∧ ∀ W', Row W' T 1 v m vals → ∀ (i : Nat) r, vals[i]? = some r → ∃ g o, ad = some ⟨g, o, none⟩ ∧ W'.cell? ⟨g, o + i, none⟩ = some r := by
  obtain ⟨ad, cap, e, _, _, _, _⟩ := h.shape
  refine ⟨ad, cap, e, fun W' hW i r hr => ?_⟩
  obtain ⟨ad', cap', e', h1, h2, h3, h4⟩ := hW.shape
  rw [e] at e'
  cases e'
  have hi := (List.getElem?_eq_some_iff.1 hr).1
  have hl := hW.1
  cases ad with
  | none => have := (h3 rfl).1; omega
  | some a =>
    obtain ⟨g, o, rfl, _, h5, h6⟩ := h4 a rfl
    exact ⟨g, o, rfl, (h6 W' rfl).1 _ _ hr⟩
set_option maxHeartbeats 4000000 in
theorem appendTexts_any {w0 w : World} {v0 rv : Value} {k0 m nw : Nat} {xs0 vals : List Value} {ts : List (List UInt8)} (hM : Mine w0 w 9 1 v0 k0 xs0) (hR : Row w 81 1 rv m vals) (hts : ts.length = m) (hn : nw ≤ 1000) (hk : k0 + m ≤ 100000) (hE : ∀ (i : Nat) q t, vals[i]? = some q → ts[i]? = some t → Row w 85 5 q nw (glsV (rowG nw t))) (hok : ∀ t ∈ ts, t.length ≤ nw ∧ ∀ c ∈ t, 33 ≤ c.toNat ∧ c.toNat ≤ 126) : Calls Tryz.prog 12 #[v0, rv] w fun e w' => ∃ v, e = .returned v ∧ Mine w0 w' 9 1 v (k0 + m) (xs0 ++ strs ts) ∧ Kp w w' := by
  obtain ⟨ad, cap, hre, hel⟩ := hR.elems
  have hvl : vals.length = m := by have := hR.1; omega
  have HR := hidK (And.intro hR (And.intro hel (And.intro hE (And.intro hok (And.intro hts hvl)))))
  have HM0 := hidK hM
  subst hre
  obtain ⟨va, vc, hve, _, _, _, _⟩ := hM.row.shape
  subst hve
  clear hR hel hE hok hts hM hvl
  go_enter Tryz.func12, Tryz.ntmps12
  go_wp2_with fail
  go_loopw [0, 9] (fun v i wr => ∃ k : Nat, k ≤ m ∧ i = .int .i64 (k : Int) ∧ Hid (Mine w0 wr 9 1 v (k0 + k) (xs0 ++ strs (ts.take k)) ∧ Kp w wr)) (fun _ i _ => m - (intOf i).toNat)
  case atStart => exact ⟨0, Nat.zero_le _, rfl, by rw [List.take_zero]; simpa [strs] using HM0.out, Kp.refl _⟩
  case round =>
    obtain ⟨k, hkm, rfl, HM⟩ := hrel
    by_cases hlt : k < m
    · obtain ⟨hRr, hel, hE, hok, hts, hvl⟩ := HR.out
      obtain ⟨q, hq⟩ : ∃ q, vals[k]? = some q := ⟨_, List.getElem?_eq_getElem (by omega)⟩
      obtain ⟨t, ht⟩ : ∃ t, ts[k]? = some t := ⟨_, List.getElem?_eq_getElem (by omega)⟩
      obtain ⟨g, o, hae, cr⟩ := hel wr (HM.out.2 _ _ _ _ _ (by decide) hRr) k q hq
      have hrow := HM.out.2 _ _ _ _ _ (by decide) (hE k q t hq ht)
      obtain ⟨ra, rc, hqe, _, _, _, _⟩ := hrow.shape
      have htx := hok t (List.mem_of_getElem? ht)
      have HC := hidK (text_row hn htx.1 htx.2 hrow)
      have HTk := hidK ht
      subst hae
      subst hqe
      obtain ⟨z, hz⟩ : ∃ z, str t = z := ⟨_, rfl⟩
      have HZ := hidK hz
      rw [hz] at HC
      clear hRr hel hE hok hts hvl hq ht hrow htx hz
      go_wp2_with fail
      refine HC.out.mono ?_
      rintro e w1 ⟨rfl, hb1⟩
      have HB1 := hidK hb1
      clear hb1 cr
      go_wp2_with (refine wpList_append_row (w1.alloc (.cells #[.string z] 9)) rfl _ _ 24 24 rfl underStrs infoStr rfl (v := u0) (by simp [Act.eval]) (u := .slice (some ⟨w1.heap.size, 0, none⟩) 1 1) (by simp [Act.eval]) ((HM.out.1.more HB1.out).more ((Below.refl _ _).alloc (Nat.le_refl _) _)).row (Src.block underStrs _ _ [.string z] 9 1 (heap_alloc_new w1 _) rfl rfl) ?x1 ?x2 ?x3)
      case x1 => omega
      case x2 => unfold maxLen; omega
      intro v2 w2 hr2 hg2
      go_wp2_with fail
      go_roundw
      case rel =>
        refine ⟨k + 1, by omega, by go_num, ((HM.out.1.more HB1.out).grown ((Below.refl _ _).alloc (Nat.le_refl _) _) hr2.out hg2.out).cast rfl ?_, ?_⟩
        · obtain ⟨hi, he⟩ := List.getElem?_eq_some_iff.1 HTk.out
          rw [List.take_succ_eq_append_getElem hi, he]
          unfold strs
          rw [List.map_append, ← HZ.out]
          rfl
        · exact ((HM.out.2.more HB1.out).more ((Below.refl _ _).alloc (Nat.le_refl _) _)).grown ((HM.out.1.more HB1.out).more ((Below.refl _ _).alloc (Nat.le_refl _) _)).row hg2.out
      case measure => simp [intOf]; omega
    · obtain rfl : k = m := by omega
      go_wp2_with fail
      go_ret
      refine ⟨u0, rfl, ?_, HM.out.2⟩
      have h9 := HM.out.1
      rw [List.take_of_length_le (by have := HR.out.2.2.2.2.1; omega)] at h9
      exact h9
theorem GAt.asRow {w : World} {g : Nat} {gs : List Gl} (h : GAt w g gs) (hl : gs.length ≤ 1000) : Row w 85 5 (.slice (some ⟨g, 0, none⟩) gs.length gs.length) gs.length (glsV gs) :=
  ⟨gls_len gs, .inr ⟨g, 0, gs.length, _, rfl, h, Nat.le_refl _, by unfold maxLen; omega, by simp [gls_len], fun j u hu => by simpa using hu⟩⟩
theorem RowsAt.asRow {w : World} {G : Nat} {rs : List (Nat × List Gl)} (h : RowsAt w G rs 0) (hl : rs.length ≤ 1000) : Row w 81 1 (.slice (some ⟨G, 0, none⟩) rs.length rs.length) rs.length (rs.map rowV) :=
  ⟨by simp, .inr ⟨G, 0, rs.length, _, rfl, h.blk, Nat.le_refl _, by unfold maxLen; omega, by simp, fun j u hu => by simpa using hu⟩⟩
set_option maxHeartbeats 4000000 in
/-- What Lines tells. -/
theorem lines_pg {w0 w : World} {b G nw nh lim x : Nat} {L : List (List UInt8)} {wt : Bool} (n1 : 1 ≤ nh) (n2 : nh ≤ 1000) (n3 : nw ≤ 1000) (n4 : lim ≤ 2000) (hS : Sp w0 w b G nw nh lim L x wt) : Calls Tryz.prog 7 #[.pointer (some ⟨b, 0, none⟩)] w fun e w' => ∃ v, e = .returned v ∧ Mine w w' 9 1 v ((old nh lim L).length + nh) (strs (old nh lim L ++ vis nh L)) := by
  obtain ⟨s, rs, hs, h, hp⟩ := hS
  have hrl : rs.length = nh := by
    have := congrArg List.length hp.rows
    simpa [vis_len] using this
  have hol : hs.length = (old nh lim L).length := by
    have := congrArg List.length hp.hist
    simpa using this
  have hmem : ∀ t, t ∈ old nh lim L ∨ t ∈ vis nh L → t.length ≤ nw ∧ ∀ c ∈ t, 33 ≤ c.toNat ∧ c.toNat ≤ 126 := fun t ht => by
    have hL : t ∈ L → t.length ≤ nw ∧ ∀ c ∈ t, 33 ≤ c.toNat ∧ c.toNat ≤ 126 := fun h => ⟨hp.few t h, hp.ok t h⟩
    rcases ht with ht | ht
    · exact hL (List.mem_of_mem_take (List.mem_of_mem_drop ht))
    · rcases List.mem_append.1 ht with ht | ht
      · exact hL (List.mem_of_mem_drop ht)
      · rw [List.eq_of_mem_replicate ht]
        simp
  have c37 := h.scn.at_.c37
  rw [hp.base.main] at c37
  have c39 := h.scn.at_.c39
  have c2 := h.scn.at_.c2
  rw [h.scn.val, hrl] at c2
  obtain ⟨pa, pc, hpe, _, _, _, _⟩ := h.hist.row.shape
  have HA : Hid (Calls Tryz.prog 12 #[.slice none 0 0, s.past] w fun e w' => ∃ v, e = .returned v ∧ Mine w w' 9 1 v (0 + (old nh lim L).length) ([] ++ strs (old nh lim L)) ∧ Kp w w') := by
    refine appendTexts_any (Mine.nil (Below.refl _ _)) (by have h9 := h.hist.row; rw [hol] at h9; exact h9) rfl n3 (by have := old_len (nh := nh) (lim := lim) (L := L); omega) (fun i q t hq ht => ?_) (fun t ht => hmem t (.inl ht))
    rw [List.getElem?_map] at hq
    obtain ⟨e, he, rfl⟩ := Option.map_eq_some_iff.1 hq
    have h2 := congrArg (·[i]?) hp.hist
    simp only [List.getElem?_map, he, ht, Option.map_some, Option.some.injEq] at h2
    have h3 := h.hist.each e (List.mem_of_getElem? he)
    rw [h2, rowG_len (hmem t (.inl (List.mem_of_getElem? ht))).1] at h3
    exact h3
  have HRw : Hid (∀ W v xs, Mine w W 9 1 v (old nh lim L).length xs → Calls Tryz.prog 12 #[v, .slice (some ⟨G, 0, none⟩) nh nh] W fun e w' => ∃ v, e = .returned v ∧ Mine w w' 9 1 v ((old nh lim L).length + nh) (xs ++ strs (vis nh L))) := fun W v xs hM => by
    have hr9 := h.scn.rows.below hM.below
    refine (appendTexts_any hM (by have h9 := hr9.asRow (by omega); rw [hrl] at h9; exact h9) (vis_len nh L) n3 (by have := old_len (nh := nh) (lim := lim) (L := L); omega) (fun i q t hq ht => ?_) (fun t ht => hmem t (.inr ht))).mono ?_
    · rw [List.getElem?_map] at hq
      obtain ⟨e, he, rfl⟩ := Option.map_eq_some_iff.1 hq
      have h2 := congrArg (·[i]?) hp.rows
      simp only [List.getElem?_map, he, ht, Option.map_some, Option.some.injEq] at h2
      have hln := rowG_len (hmem t (.inr (List.mem_of_getElem? ht))).1
      have h3 := (hr9.row e (List.mem_of_getElem? he)).asRow (by rw [h2, hln]; exact n3)
      rw [h2, hln] at h3
      show Row W 85 5 (.slice (some ⟨e.1, 0, none⟩) e.2.length e.2.length) nw _
      rw [h2, hln]
      exact h3
    · rintro e w' ⟨v, rfl, h1, _⟩
      exact ⟨v, rfl, h1⟩
  have HCell : Hid (∀ W, Below w.heap.size w W → W.cell? ⟨b, 2, none⟩ = some (.slice (some ⟨G, 0, none⟩) nh nh)) := fun W hb => by
    have h9 := (h.scn.at_.below hb).c2
    rw [h.scn.val, hrl] at h9
    exact h9
  rw [hpe] at c39 HA
  clear h hp hrl hol hmem hpe
  go_enter Tryz.func7, Tryz.ntmps7
  go_wp2_with fail
  refine HA.out.mono ?_
  rintro e w1 ⟨v1, rfl, hM1, _⟩
  rw [Nat.zero_add, List.nil_append] at hM1
  obtain ⟨va, vc, hve, _, _, _, _⟩ := hM1.row.shape
  have HM1 := hidK hM1
  subst hve
  clear c2 c37 c39
  have c2 := HCell.out w1 hM1.below
  clear hM1
  go_wp2_with fail
  refine (HRw.out _ _ _ HM1.out).mono ?_
  rintro e w2 ⟨v2, rfl, hM2⟩
  have HM2 := hidK hM2
  clear hM2
  go_wp2_with fail
  go_ret
  refine ⟨v2, rfl, ?_⟩
  have h9 := HM2.out
  unfold strs at h9 ⊢
  rw [List.map_append]
  exact h9
end Go.Proofs.YtooahffclghcjaaGreatDoor
