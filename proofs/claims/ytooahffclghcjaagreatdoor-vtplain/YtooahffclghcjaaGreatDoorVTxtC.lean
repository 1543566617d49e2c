/-
  The text of a row of letters.
-/
import Derived.Test.YtooahffclghcjaaGreatDoorVBldC
import Derived.Test.YtooahffclghcjaaGreatDoorMF
namespace Go.Proofs.YtooahffclghcjaaGreatDoor
open Go.RowKit
set_option linter.unusedVariables false
set_option maxRecDepth 100000

set_option maxHeartbeats 1000000 in
theorem feed_long {w : World} (b : Nat) (data : List UInt8) (hl : data.length ≤ 1099511627776) (R : Nat → World → Prop) (h0 : R 0 w)
    (step : ∀ k c W, data[k]? = some c → R k W → Calls Tryz.prog 11 #[.pointer (some ⟨b, 0, none⟩), .int .u8 (c.toNat : Int)] W fun x w' => x = .returned (.tuple #[]) ∧ R (k + 1) w') :
    Calls Tryz.prog 5 #[.pointer (some ⟨b, 0, none⟩), .string (str data)] w fun x w' => x = .returned (.tuple #[]) ∧ R data.length w' := by
  have H0 := hidK h0
  have HS := hidK step
  have hz : (str data).size = data.length := rfl
  clear h0 step
  go_enter Tryz.func5, Tryz.ntmps5
  go_wp2_with fail
  go_loopw [7] (fun i wr => ∃ k : Nat, k ≤ data.length ∧ i = .int .i64 (k : Int) ∧ Hid (R k wr)) (fun i _ => data.length - (intOf i).toNat)
  case atStart => exact ⟨0, by omega, rfl, H0⟩
  case round =>
    obtain ⟨k, hk, rfl, HR⟩ := hrel
    by_cases hlt : k < data.length
    · have hlt2 : k < (str data).size := hlt
      obtain ⟨c, hc⟩ : ∃ c, data[k]? = some c := ⟨_, List.getElem?_eq_getElem hlt⟩
      have hgc : (str data)[k] = c := (List.getElem?_eq_some_iff.1 hc).2
      have HC := hidK hc
      clear hc
      go_wp2_with fail
      refine (HS.out k c _ HC.out HR.out).mono ?_
      rintro e w1 ⟨rfl, hr⟩
      have HR1 := hidK hr
      clear hr
      go_wp2_with fail
      go_roundw
      case rel => exact ⟨k + 1, by omega, by go_num, HR1⟩
      case measure => simp [intOf]; omega
    · obtain rfl : k = data.length := by omega
      go_wp2_with fail
      go_end0
      exact ⟨rfl, HR.out⟩

theorem Row.seenV {w : World} {v : Value} {gs : List Gl} (h : Row w 85 5 v gs.length (glsV gs)) : ∃ ad cap, v = .slice ad gs.length cap ∧ ∀ W', Below w.heap.size w W' → ∀ (i : Nat) x, gs[i]? = some x → ∃ g o, ad = some ⟨g, o, none⟩ ∧ W'.cell? ⟨g, o + i * 5, none⟩ = some (.int .i32 x.l) ∧ W'.cell? ⟨g, o + i * 5 + 1, none⟩ = some (.int .i64 x.n) ∧ W'.cell? ⟨g, o + i * 5 + 2, none⟩ = some (.int .i64 x.fo) ∧ W'.cell? ⟨g, o + i * 5 + 3, none⟩ = some (.int .i64 x.ba) ∧ W'.cell? ⟨g, o + i * 5 + 4, none⟩ = some (.int .i64 x.ma) := by
  obtain ⟨ad, cap, e, h1, h2, h3, h4⟩ := h.shape
  refine ⟨ad, cap, e, fun W' hW i x hx => ?_⟩
  have hi := (List.getElem?_eq_some_iff.1 hx).1
  cases ad with
  | none =>
    have := (h3 rfl).1
    omega
  | some a =>
    obtain ⟨g, o, rfl, _, h5, h6⟩ := h4 a rfl
    have hk := (h6 W' (hW.block g h5)).1
    obtain ⟨t0, t1, t2, t3, t4⟩ := gls_get hx
    refine ⟨g, o, rfl, hk _ _ t0, ?_, ?_, ?_, ?_⟩
    · rw [Nat.add_assoc]; exact hk _ _ t1
    · rw [Nat.add_assoc]; exact hk _ _ t2
    · rw [Nat.add_assoc]; exact hk _ _ t3
    · rw [Nat.add_assoc]; exact hk _ _ t4
/-- Letters that are gathered. -/
structure Bd2 (w wr : World) (B : Nat) (l : List UInt8) (cs : Array Value) (v : Value) : Prop where
  below : Below w.heap.size w wr
  bld : BuilderIn wr w.heap.size B 0 101 cs v l
  nil : l = [] → v = .slice none 0 0
theorem Bd2.more {w wr w' : World} {B : Nat} {l : List UInt8} {cs : Array Value} {v : Value} (h : Bd2 w wr B l cs v) (hb : Below wr.heap.size wr w') : Bd2 w w' B l cs v := ⟨h.below.trans (hb.mono h.below.size), h.bld.below hb, h.nil⟩
theorem trim_text (t : List UInt8) (k : Nat) (h : ∀ c ∈ t, 33 ≤ c.toNat ∧ c.toNat ≤ 126) : Lib.trimRightB (t ++ List.replicate k 32) 32 = t := by
  unfold Lib.trimRightB
  rw [List.reverse_append, List.reverse_replicate]
  have h1 : ∀ k, List.dropWhile (· == 32) (List.replicate k (32 : UInt8) ++ t.reverse) = t.reverse := fun k => by
    induction k with
    | zero =>
      rw [List.replicate_zero, List.nil_append]
      cases hr : t.reverse with
      | nil => rfl
      | cons c r =>
        have hc : c ∈ t := by rw [← List.mem_reverse, hr]; simp
        have := h c hc
        rw [List.dropWhile_cons_of_neg]
        intro e
        have e2 : c = 32 := by simpa using e
        rw [e2] at this
        exact absurd this.1 (by decide)
    | succ k ih => rw [List.replicate_succ, List.cons_append, List.dropWhile_cons_of_pos (by rfl)]; exact ih
  rw [h1, List.reverse_reverse]
set_option maxHeartbeats 4000000 in
theorem text_row {w : World} {v : Value} {n : Nat} (hn : n ≤ 1000) {t : List UInt8} (htl : t.length ≤ n) (hto : ∀ c ∈ t, 33 ≤ c.toNat ∧ c.toNat ≤ 126) (h : Row w 85 5 v n (glsV (rowG n t))) : Calls Tryz.prog 23 #[v] w fun e w' => e = .returned (.string (str t)) ∧ Below w.heap.size w w' := by
  obtain ⟨ds, hds⟩ : ∃ ds, t ++ List.replicate (n - t.length) 32 = ds := ⟨_, rfl⟩
  have hdl : ds.length = n := by rw [← hds]; simp; omega
  have hgl : (rowG n t).length = n := rowG_len htl
  have hdo : ∀ c ∈ ds, c.toNat < 128 ∧ c.toNat ≠ 0 := fun c hc => by
    rw [← hds] at hc
    rcases List.mem_append.1 hc with hc | hc
    · have := hto c hc
      omega
    · rw [List.eq_of_mem_replicate hc]
      decide
  have hget : ∀ (i : Nat) c, ds[i]? = some c → (rowG n t)[i]? = some ⟨(c.toNat : Int), 1, 0, 0, 0⟩ := fun i c hc => by
    have e : rowG n t = ds.map (fun c => ⟨(c.toNat : Int), 1, 0, 0, 0⟩) := by
      rw [← hds, List.map_append, List.map_replicate]
      rfl
    rw [e, List.getElem?_map, hc]
    rfl
  obtain ⟨ad, cap, hve, hsee⟩ := Row.seenV (gs := rowG n t) (by rw [hgl]; exact h)
  rw [hgl] at hve
  subst hve
  have HT2 := hidK (And.intro hds (And.intro hdl (And.intro hdo hget)))
  have H := hidK hsee
  obtain ⟨W, hW⟩ : ∃ W, w.alloc (.cells #[.pointer none, .slice none 0 0] 101) = W := ⟨_, rfl⟩
  have HW := hidK hW
  obtain ⟨B, hB⟩ : ∃ B, w.heap.size = B := ⟨_, rfl⟩
  have HB := hidK hB
  have H0 : Hid (Bd2 w W B [] #[.pointer none, .slice none 0 0] (.slice none 0 0)) := by
    refine ⟨by rw [← hW]; exact (Below.refl _ _).alloc (Nat.le_refl _) _, ⟨by rw [← hW, ← hB]; exact heap_alloc_new w _, .inl rfl, rfl, ⟨rfl, .inl ⟨rfl, rfl⟩⟩, by decide, by kernel_rfl⟩, fun _ => rfl⟩
  have HRi : Hid (∀ (c : UInt8) W, c.toNat ≠ 0 → Calls Tryz.prog 43 #[.agg #[.int .i32 (c.toNat : Int), .int .i64 1, .int .i64 0, .int .i64 0, .int .i64 0]] W fun r w' => r = .returned (.bool false) ∧ Below W.heap.size W w') := fun c W hc => isRight_no ⟨(c.toNat : Int), 1, 0, 0, 0⟩ (by simp only; omega) W
  clear hW hB h hsee hget hdo hds hgl hdl
  go_enter Tryz.func23, Tryz.ntmps23
  go_wp2_with fail
  rw [HW.out, HB.out]
  go_loopw [8] (fun i wr => ∃ k : Nat, k ≤ n ∧ i = .int .i64 (k : Int) ∧ Hid (∃ cs v, Bd2 w wr B (ds.take k) cs v)) (fun i _ => n - (intOf i).toNat)
  case atStart => exact ⟨0, Nat.zero_le _, rfl, _, _, by rw [List.take_zero]; exact H0.out⟩
  case round =>
    obtain ⟨k, hk, rfl, HM⟩ := hrel
    obtain ⟨cs, v, hM⟩ := HM.out
    have HM2 := hidK hM
    clear HM hM
    by_cases hlt : k < n
    · obtain ⟨c, hcd⟩ : ∃ c, ds[k]? = some c := ⟨_, List.getElem?_eq_getElem (by rw [HT2.out.2.1]; exact hlt)⟩
      have hcm := HT2.out.2.2.1 c (List.mem_of_getElem? hcd)
      obtain ⟨g, o, hae, x0, x1, x2, x3, x4⟩ := H.out wr HM2.out.below k _ (HT2.out.2.2.2 k c hcd)
      simp only at x0 x1 x2 x3 x4
      subst hae
      have HCd := hidK hcd
      have hcz : c.toNat ≠ 0 := hcm.2
      have HCc := hidK hcm
      have hki : (k : Int) < (n : Int) := by omega
      clear hcd hcm
      obtain ⟨Y, hY⟩ : ∃ Y, wr.alloc (.cells #[.int .i32 (c.toNat : Int), .int .i64 1, .int .i64 0, .int .i64 0, .int .i64 0] 85) = Y := ⟨_, rfl⟩
      have HY := hidK hY
      obtain ⟨Q, hQ⟩ : ∃ Q, wr.heap.size = Q := ⟨_, rfl⟩
      have HQ := hidK hQ
      have HBY : Hid (Below wr.heap.size wr Y) := by rw [← hY]; exact (Below.refl _ _).alloc (Nat.le_refl _) _
      have hqb : Y.heap[Q]? = some (.cells #[.int .i32 (c.toNat : Int), .int .i64 1, .int .i64 0, .int .i64 0, .int .i64 0] 85 (0, 0)) := by rw [← hY, ← hQ]; exact heap_alloc_new wr _
      have HQb := hidK hqb
      obtain ⟨y0, y1, y2, y3, y4⟩ := box_cells (x := ⟨(c.toNat : Int), 1, 0, 0, 0⟩) hqb
      simp only at y0 y1 y2 y3 y4
      clear hY hQ hqb
      go_wp2_with fail
      rw [HY.out, HQ.out]
      refine (HRi.out c _ hcz).mono ?_
      rintro e w1 ⟨rfl, hb1⟩
      have HM1 : Hid (Bd2 w w1 B (ds.take k) cs v) := (HM2.out.more HBY.out).more hb1
      have z0 : w1.cell? ⟨Q, 0, none⟩ = some (.int .i32 (c.toNat : Int)) := cell_atT ((hb1.block Q (lt_of_block HQb.out)).trans HQb.out) 0
      have HWr : Hid (Calls Tryz.prog 44 #[.pointer (some ⟨B, 0, none⟩), .int .i32 (c.toNat : Int)] w1 fun e w' => (∃ r, e = .returned r) ∧ ∃ v', BuilderIn w' w.heap.size B 0 101 ((cs.set! 0 (.pointer (some ⟨B, 0, none⟩))).set! (0 + 1) v') v' (ds.take k ++ [c]) ∧ But (B :: v.ownBlock.toList) w1 w') := writeRune_ascii HM1.out.bld HM1.out.below.size (by have h9 := List.length_take_le k ds; omega) c HCc.out.1
      clear hb1 x0 x1 x2 x3 x4 y0 y1 y2 y3 y4
      go_wp2_with fail
      refine HWr.out.mono ?_
      rintro e w2 ⟨⟨r, rfl⟩, v', hb2, hbut⟩
      have H2 := hidK (And.intro hb2 hbut)
      clear hb2 hbut z0
      go_wp2_with fail
      go_roundw
      case rel =>
        refine ⟨k + 1, by omega, by go_num, _, v', H2.out.2.under HM1.out.below HM1.out.below.size (fun q hq => ?_), by rw [List.take_succ_eq_append_getElem (by rw [HT2.out.2.1]; exact hlt), (List.getElem?_eq_some_iff.1 HCd.out).2]; exact H2.out.1, fun h => by have h9 := congrArg List.length h; rw [List.length_take, HT2.out.2.1, List.length_nil] at h9; omega⟩
        have hB1 := HB.out
        rcases List.mem_cons.1 hq with e | e
        · omega
        · exact HM1.out.bld.young (by simpa using e)
      case measure => simp [intOf]; omega
    · obtain rfl : k = n := by omega
      have HS : Hid (Calls Tryz.prog 46 #[.pointer (some ⟨B, 0, none⟩)] wr fun e w' => e = .returned (.string (str ds)) ∧ w'.heap[B]? = some (.cells cs 101 (0, 0)) ∧ But v.ownBlock.toList wr w') := (by have h9 := string_in HM2.out.bld HM2.out.nil; rw [show ds.take k = ds from List.take_of_length_le (by rw [HT2.out.2.1]; exact Nat.le_refl _)] at h9; exact h9)
      have HT : Hid (∀ W, Calls Tryz.prog 45 #[.string (str ds), .string ⟨#[32]⟩] W fun e w' => e = .returned (.string (str t)) ∧ w' = W) := fun W => (Tryz.strings_TrimRight_one (str ds) 32 (by decide) W (by have h9 := HT2.out.2.1; show ds.toArray.size ≤ _; rw [List.size_toArray, h9]; omega)).mono (by
        rintro e w' ⟨rfl, rfl⟩
        refine ⟨?_, rfl⟩
        rw [show (str ds).data.toList = ds from rfl, ← HT2.out.1, trim_text t _ hto]; rfl)
      go_wp2_with fail
      refine HS.out.mono ?_
      rintro e w1 ⟨rfl, _, hbut⟩
      have HU := hidK hbut
      clear hbut
      go_wp2_with fail
      refine (HT.out _).mono ?_
      rintro e w2 ⟨rfl, rfl⟩
      go_wp2_with fail
      go_ret
      exact ⟨rfl, HU.out.under HM2.out.below HM2.out.below.size (fun q hq => HM2.out.bld.young (by simpa using hq))⟩
end Go.Proofs.YtooahffclghcjaaGreatDoor
