/-
  The document's formats: Match, row by row.
-/
import Derived.Test.YtlfcjcaofhcfnaaGreatDoorII
import Derived.Test.YtlfcjcaofhcfnaaGreatDoorIG
import Derived.Test.YtlfcjcaofhcfnaaGreatDoorGK
import Derived.Laws.MakeOwn
namespace Go.Proofs.YtlfcjcaofhcfnaaGreatDoor
open Go.RowKit
set_option linter.unusedVariables false
set_option maxRecDepth 20000

/-- A row of truths, in a block. -/
structure BRow (w : World) (g m : Nat) (f : Nat → Bool) : Prop where
  blk : ∃ arr : Array Value, w.heap[g]? = some (.cells arr 4 (0, 0)) ∧ arr.size = m + 1 ∧ ∀ j, j ≤ m → arr[j]? = some (.bool (f j))
theorem BRow.keep {w w' : World} {g m : Nat} {f : Nat → Bool} (h : BRow w g m f) (hk : w'.heap[g]? = w.heap[g]?) : BRow w' g m f := by
  obtain ⟨arr, h1, h2, h3⟩ := h.blk
  exact ⟨arr, hk.trans h1, h2, h3⟩
theorem BRow.lt {w : World} {g m : Nat} {f : Nat → Bool} (h : BRow w g m f) : g < w.heap.size := by
  obtain ⟨arr, h1, _⟩ := h.blk
  exact lt_of_block h1
theorem BRow.cell {w : World} {g m : Nat} {f : Nat → Bool} (h : BRow w g m f) {j : Nat} (hj : j ≤ m) : w.cell? ⟨g, j, none⟩ = some (.bool (f j)) := by
  obtain ⟨arr, h1, _, h3⟩ := h.blk
  rw [cell_atT h1]
  exact h3 j hj
theorem BRow.free {w : World} {g m : Nat} {f : Nat → Bool} (h : BRow w g m f) (j : Nat) : w.frozen? ⟨g, j, none⟩ = false := by
  obtain ⟨arr, h1, _⟩ := h.blk
  exact free_atT h1 j
theorem BRow.set {w : World} {g m : Nat} {f : Nat → Bool} (h : BRow w g m f) {j : Nat} (hj : j ≤ m) (b : Bool) : BRow (w.setCell ⟨g, j, none⟩ (.bool b)) g m (fun i => if i = j then b else f i) := by
  obtain ⟨arr, h1, h2, h3⟩ := h.blk
  refine ⟨_, heap_setCell_same w g j _ _ _ h1, by simpa using h2, fun i hi => ?_⟩
  by_cases e : i = j
  · subst e
    rw [if_pos rfl, Array.getElem?_setIfInBounds_self_of_lt (by omega)]
  · rw [if_neg e, Array.getElem?_setIfInBounds_ne (by omega)]
    exact h3 i hi
theorem BRow.as {w : World} {g m : Nat} {f f' : Nat → Bool} (h : BRow w g m f) (hf : ∀ j, j ≤ m → f j = f' j) : BRow w g m f' := by
  obtain ⟨arr, h1, h2, h3⟩ := h.blk
  exact ⟨arr, h1, h2, fun j hj => by rw [← hf j hj]; exact h3 j hj⟩
theorem pieces_at : ∀ (ts : List Tok) (i : Nat) (t : Tok), ts[i]? = some t → (piecesV ts)[i * 3]? = some (.bool t.many) ∧ (piecesV ts)[i * 3 + 1]? = some (.bool t.not) ∧ (piecesV ts)[i * 3 + 2]? = some (.string (str (rangF t.mem)))
  | [], i, t, h => by simp at h
  | u :: ts, 0, t, h => by
    cases h
    exact ⟨rfl, rfl, rfl⟩
  | u :: ts, i + 1, t, h => by
    have ih := pieces_at ts i t h
    have e : piecesV (u :: ts) = pieceCs u ++ piecesV ts := rfl
    have e1 : (i + 1) * 3 = (pieceCs u).length + i * 3 := by show _ = 3 + _; omega
    rw [e, e1]
    refine ⟨?_, ?_, ?_⟩
    · rw [List.getElem?_append_right (Nat.le_add_right _ _), Nat.add_sub_cancel_left]; exact ih.1
    · rw [Nat.add_assoc, List.getElem?_append_right (Nat.le_add_right _ _), Nat.add_sub_cancel_left]; exact ih.2.1
    · rw [Nat.add_assoc, List.getElem?_append_right (Nat.le_add_right _ _), Nat.add_sub_cancel_left]; exact ih.2.2
theorem dtoks_mems (p : List UInt8) : ∀ t ∈ dtoksF p, t.mem.length ≤ p.length := by
  rw [← toks_doc]
  exact toks_mems _ _ _
theorem infoBool : (Tryz.prog.info? 4).map (fun i => (i.zero, i.size, i.bytes)) = some (some (.bool false), 1, 1) := by kernel_rfl
theorem underBools : Tryz.prog.underlying 186 = some (.slice 4) := by kernel_rfl
/-- A row that is made. -/
def madeW (W : World) (m : Nat) : World := W.alloc (.cells (madeCells #[.bool false] (m + 1)) 4)
theorem made_run (W : World) (m : Nat) (hm : m ≤ 2147483647) : (Instr.makeSlice 186 (.int .i64 ((m : Int) + 1)) (.int .i64 ((m : Int) + 1))).run Tryz.prog W = .ok (.slice (some ⟨W.heap.size, 0, none⟩) (m + 1) (m + 1)) (madeW W m) := by
  obtain ⟨i, hi, hz, hs, hb⟩ := info_parts infoBool
  have h := run_make (P := Tryz.prog) W 186 4 i (.bool false) underBools hi hz .i64 .i64 ((m : Int) + 1) ((m : Int) + 1) (by omega) (Int.le_refl _) (by rw [hb]; omega) (by omega)
  rw [h, hs]
  rw [show ((m : Int) + 1).toNat = m + 1 by omega, Nat.mul_one]
  rfl
theorem made_row (W : World) (m : Nat) : BRow (madeW W m) W.heap.size m (fun _ => false) := by
  refine ⟨_, heap_alloc_new W _, ?_, fun j hj => ?_⟩
  · simp [madeCells]
  · have h1 : j < m + 1 := by omega
    simp [madeCells, h1, Nat.mod_one]
theorem made_below (W : World) (m : Nat) : Below W.heap.size W (madeW W m) := (Below.refl _ _).alloc (Nat.le_refl _) _
/-- The pieces, one by one. -/
theorem Mine.pies {w W : World} {v : Value} {ts : List Tok} (h : Pies w W v ts) : ∃ ad cap, v = .slice ad ts.length cap ∧ ∀ W', Below W.heap.size W W' → ∀ (i : Nat) (t : Tok), ts[i]? = some t → ∃ g o, ad = some ⟨g, o, none⟩ ∧ W'.cell? ⟨g, o + i * 3, none⟩ = some (.bool t.many) ∧ W'.cell? ⟨g, o + i * 3 + 1, none⟩ = some (.bool t.not) ∧ W'.cell? ⟨g, o + i * 3 + 2, none⟩ = some (.string (str (rangF t.mem))) := by
  obtain ⟨ad, cap, e, h1, h2, h3, h4⟩ := h.row.shape
  refine ⟨ad, cap, e, fun W' hW i t ht => ?_⟩
  have hi := (List.getElem?_eq_some_iff.1 ht).1
  cases ad with
  | none =>
    have := (h3 rfl).1
    omega
  | some a =>
    obtain ⟨g, o, rfl, _, h5, h6⟩ := h4 a rfl
    obtain ⟨t0, t1, t2⟩ := pieces_at ts i t ht
    exact ⟨g, o, rfl, (h6 W' (hW.block g h5)).1 _ _ t0, (h6 W' (hW.block g h5)).1 _ _ t1, (h6 W' (hW.block g h5)).1 _ _ t2⟩
theorem wrap_okF {x : Int} (h1 : -9223372036854775808 ≤ x) (h2 : x ≤ 9223372036854775807) : IntKind.i64.wrap x = x := by rw [IntKind.wrap_i64]; omega
/-- A row so far. -/
def soFar (h : Nat → Bool) (k : Nat) : Nat → Bool := fun j => if j < k then h j else false
theorem soFar_zero {h : Nat → Bool} {j : Nat} : (if j = 0 then h 0 else false) = soFar h 1 j := by
  unfold soFar
  by_cases e : j = 0
  · subst e; rfl
  · rw [if_neg e, if_neg (by omega)]
theorem soFar_step {h : Nat → Bool} {k j : Nat} : (if j = k then h k else soFar h k j) = soFar h (k + 1) j := by
  unfold soFar
  by_cases e : j = k
  · subst e; rw [if_pos rfl, if_pos (Nat.lt_succ_self _)]
  · rw [if_neg e]
    by_cases e2 : j < k
    · rw [if_pos e2, if_pos (by omega)]
    · rw [if_neg e2, if_neg (by omega)]
theorem soFar_in {h : Nat → Bool} {k j : Nat} (hj : j < k) : soFar h k j = h j := if_pos hj
theorem step_star {t : Tok} (h : t.many = true) (s : List UInt8) (f : Nat → Bool) (k : Nat) : stepR t s f 0 = f 0 ∧ stepR t s f (k + 1) = (f (k + 1) || stepR t s f k) := by
  unfold stepR
  rw [if_pos h]
  exact ⟨rfl, rfl⟩
theorem step_one {t : Tok} (h : t.many = false) (s : List UInt8) (f : Nat → Bool) (k : Nat) : stepR t s f 0 = false ∧ stepR t s f (k + 1) = (f k && standsF t s k) := by
  unfold stepR
  rw [h]
  exact ⟨rfl, rfl⟩
set_option maxHeartbeats 8000000 in
theorem matchR_any (p s : List UInt8) (hp : p.length ≤ 2147483647) (hs : s.length ≤ 2147483647) (w : World) : Calls Tryz.prog 139 #[.string (str p), .string (str s)] w fun e w' => e = .returned (.bool (mat (dtoksF p) s)) ∧ Below w.heap.size w w' := by
  have HP := hidK fun W => pieces_any p hp W
  have HG : Hid (∀ k c (h : k < (str s).size), s[k]? = some c → (str s)[k] = c) := fun k c h hc => str_getF s k c hc h
  obtain ⟨z, hz⟩ : ∃ z, str p = z := ⟨_, rfl⟩
  obtain ⟨y, hy⟩ : ∃ y, str s = y := ⟨_, rfl⟩
  have hys : y.size = s.length := by rw [← hy]; rfl
  rw [hz] at HP ⊢
  rw [hy] at HG ⊢
  obtain ⟨ts, hts⟩ : ∃ ts, dtoksF p = ts := ⟨_, rfl⟩
  rw [hts] at HP ⊢
  have htl : ts.length ≤ p.length := by rw [← hts]; exact dtoks_few _ _
  have HMem : Hid (∀ t ∈ ts, t.mem.length ≤ p.length) := by rw [← hts]; exact dtoks_mems p
  obtain ⟨m, hm⟩ : ∃ m, s.length = m := ⟨_, rfl⟩
  have HM := hidK hm
  rw [hm] at hs hys
  obtain ⟨ans, hans⟩ : ∃ b, mat ts s = b := ⟨_, rfl⟩
  rw [hans]
  have HAns := hidK hans
  clear hz hy hts hm hans
  go_enter Tryz.func139, Tryz.ntmps139
  go_wp2_with fail
  refine (HP.out _).mono ?_
  rintro e w1 ⟨v, rfl, hP1⟩
  have HP1 := hidK hP1
  obtain ⟨ad, cap, rfl, hcs⟩ := hP1.pies
  have HC := hidK hcs
  obtain ⟨n, hn⟩ : ∃ n, ts.length = n := ⟨_, rfl⟩
  have HN := hidK hn
  rw [hn] at htl ⊢
  have hmk := made_run w1 m hs
  obtain ⟨W2, hW2⟩ : ∃ W2, madeW w1 m = W2 := ⟨_, rfl⟩
  have HR2 : Hid (BRow W2 w1.heap.size m (fun _ => false)) := by rw [← hW2]; exact made_row w1 m
  have HB2 : Hid (Below w1.heap.size w1 W2) := by rw [← hW2]; exact made_below w1 m
  rw [hW2] at hmk
  obtain ⟨g0, hg0⟩ : ∃ g0, w1.heap.size = g0 := ⟨_, rfl⟩
  rw [hg0] at hmk HR2
  have c0 := HR2.out.cell (j := 0) (Nat.zero_le _)
  have f0 := HR2.out.free
  clear hP1 HP hcs hn hW2
  go_wp2_with fail
  have HR3 : Hid (BRow (W2.setCell ⟨g0, 0, none⟩ (.bool true)) g0 m (reachF s (ts.take 0) rowZero)) := (HR2.out.set (Nat.zero_le _) true).as fun j hj => by
    show (if j = 0 then true else false) = decide (j = 0)
    by_cases e : j = 0 <;> simp [e]
  have HB3 : Hid (Below w1.heap.size w1 (W2.setCell ⟨g0, 0, none⟩ (.bool true))) := HB2.out.setCell (Nat.le_of_eq hg0) _
  have HBw1 := hidK HP1.out.below
  clear c0 f0 HR2 HB2 hmk
  have HG0 := hidK hg0
  clear hg0
  go_loopw [6, 7] (fun s6 s7 wx => ∃ (i g : Nat), i ≤ n ∧ s7 = .int .i64 (i : Int) ∧ s6 = .slice (some ⟨g, 0, none⟩) (m + 1) (m + 1) ∧ Hid (BRow wx g m (reachF s (ts.take i) rowZero)) ∧ Hid (Below w1.heap.size w1 wx)) (fun _ v _ => n - (intOf v).toNat)
  case atStart => exact ⟨0, g0, Nat.zero_le _, rfl, rfl, HR3.out, HB3.out⟩
  case round =>
    clear HR3 HB3
    obtain ⟨i, g, hi, rfl, rfl, HR, HB⟩ := hrel
    by_cases hin : i < n
    · obtain ⟨t, ht⟩ : ∃ t, ts[i]? = some t := ⟨_, List.getElem?_eq_getElem (by rw [HN.out]; exact hin)⟩
      have hsn : ts.take (i + 1) = ts.take i ++ [t] := by rw [List.take_add_one, ht]; rfl
      have HSt : Hid (reachF s (ts.take (i + 1)) rowZero = stepR t s (reachF s (ts.take i) rowZero)) := by show _ = _; rw [hsn, reach_snoc]
      have hmemb : t.mem.length ≤ p.length := HMem.out t (List.mem_of_getElem? ht)
      have HOne : Hid (∀ (c : UInt8) W, Calls Tryz.prog 164 #[.agg #[.bool t.many, .bool t.not, .string (str (rangF t.mem))], .int .u8 (c.toNat : Int)] W fun e w' => e = .returned (.bool (t.of c)) ∧ Below W.heap.size W w') := fun c W => by
        have h := one_any t.many t.not (rangF t.mem) (by have h2 : (rangF t.mem).length ≤ 2 * t.mem.length := rang_len _ _; omega) c W
        rw [rang_of] at h
        exact h
      obtain ⟨f, hf⟩ : ∃ f, reachF s (ts.take i) rowZero = f := ⟨_, rfl⟩
      rw [hf] at HR HSt
      have HCi : Hid (∀ W', Below w1.heap.size w1 W' → ∃ gp o, ad = some ⟨gp, o, none⟩ ∧ W'.cell? ⟨gp, o + i * 3, none⟩ = some (.bool t.many) ∧ W'.cell? ⟨gp, o + i * 3 + 1, none⟩ = some (.bool t.not) ∧ W'.cell? ⟨gp, o + i * 3 + 2, none⟩ = some (.string (str (rangF t.mem)))) := fun W' hW => HC.out W' hW i t ht
      obtain ⟨zm, hzm⟩ : ∃ zm, str (rangF t.mem) = zm := ⟨_, rfl⟩
      rw [hzm] at HOne HCi
      obtain ⟨gp, o, had, _⟩ := HCi.out _ HB.out
      have HCj : Hid (∀ W', Below w1.heap.size w1 W' → W'.cell? ⟨gp, o + i * 3, none⟩ = some (.bool t.many) ∧ W'.cell? ⟨gp, o + i * 3 + 1, none⟩ = some (.bool t.not) ∧ W'.cell? ⟨gp, o + i * 3 + 2, none⟩ = some (.string zm)) := fun W' hW => by
        obtain ⟨gp', o', had', h1, h2, h3⟩ := HCi.out W' hW
        rw [had] at had'
        cases had'
        exact ⟨h1, h2, h3⟩
      have hmk := made_run wr m hs
      obtain ⟨W2, hW2⟩ : ∃ W2, madeW wr m = W2 := ⟨_, rfl⟩
      have HRn : Hid (BRow W2 wr.heap.size m (fun _ => false)) := by rw [← hW2]; exact made_row wr m
      have HBn : Hid (Below wr.heap.size wr W2) := by rw [← hW2]; exact made_below wr m
      rw [hW2] at hmk
      obtain ⟨gn, hgn⟩ : ∃ gn, wr.heap.size = gn := ⟨_, rfl⟩
      rw [hgn] at hmk HRn
      have HGN := hidK hgn
      have HGG : Hid (¬ g = gn) := by have h := HR.out.lt; show ¬ _; omega
      have HBW : Hid (Below w1.heap.size w1 W2) := HB.out.trans (HBn.out.mono HB.out.size)
      obtain ⟨k0, k1, k2⟩ := HCj.out W2 HBW.out
      have HGP : Hid (¬ gp = gn) := by have h := World.block_lt_of_cell? _ _ (HCj.out _ HB.out).1; show ¬ _; simp only at h; omega
      have r0 := (HR.out.keep (HBn.out.block g HR.out.lt)).cell (j := 0) (Nat.zero_le _)
      have c0 := HRn.out.cell (j := 0) (Nat.zero_le _)
      have f0 := HRn.out.free
      have HA := hidK had
      rw [had]
      cases hmany : t.many with
      | true =>
        rw [hmany] at k0 HCj HOne
        clear ht hsn hmemb hf hzm had HCi hW2
        go_wp2_with fail
        have HRs : Hid (BRow (W2.setCell ⟨gn, 0, none⟩ (.bool (f 0))) gn m (soFar (stepR t s f) 1)) := (HRn.out.set (Nat.zero_le _) (f 0)).as fun j hj => by rw [← (step_star hmany s f 0).1]; exact soFar_zero
        have HBs : Hid (Below wr.heap.size wr (W2.setCell ⟨gn, 0, none⟩ (.bool (f 0)))) := HBn.out.setCell (Nat.le_of_eq HGN.out) _
        clear k0 k1 k2 r0 c0 f0 HRn HBn HBW hmk
        go_loopw [9] (fun s9 wx => ∃ k : Nat, k ≤ m ∧ s9 = .int .i64 ((k : Int) + 1) ∧ Hid (BRow wx gn m (soFar (stepR t s f) (k + 1))) ∧ Hid (Below wr.heap.size wr wx)) (fun v _ => m + 1 - (intOf v).toNat)
        case atStart => exact ⟨0, Nat.zero_le _, rfl, HRs.out, HBs.out⟩
        case round =>
          clear HRs HBs
          obtain ⟨k, hk, rfl, HRk, HBk⟩ := hrel
          obtain ⟨k0, k1, k2⟩ := HCj.out _ (HB.out.trans (HBk.out.mono HB.out.size))
          by_cases hkm : k + 1 ≤ m
          · have rk := (HR.out.keep (HBk.out.block g HR.out.lt)).cell (j := k + 1) hkm
            have nk := HRk.out.cell (j := k) (by omega)
            rw [soFar_in (Nat.lt_succ_self k)] at nk
            have ck := HRk.out.cell (j := k + 1) hkm
            have fk := HRk.out.free
            obtain ⟨b1, hb1⟩ : ∃ b, f (k + 1) = b := ⟨_, rfl⟩
            obtain ⟨b2, hb2⟩ : ∃ b, stepR t s f k = b := ⟨_, rfl⟩
            rw [hb1] at rk
            rw [hb2] at nk
            have HV0 : Hid (stepR t s f (k + 1) = (b1 || b2)) := by show _ = _; rw [(step_star hmany s f k).2, hb1, hb2]
            clear hb1 hb2
            cases b1 with
            | true =>
              have HV : Hid (stepR t s f (k + 1) = true) := HV0.out
              clear HV0
              go_wp2_with fail
              all_goals exact ⟨⟨k + 1, hkm, by go_num, (HRk.out.set hkm _).as (fun j hj => by rw [← HV.out]; exact soFar_step), HBk.out.setCell (Nat.le_of_eq HGN.out) _⟩, by simp [intOf]; omega⟩
            | false =>
              have HV : Hid (stepR t s f (k + 1) = b2) := HV0.out
              clear HV0
              go_wp2_with fail
              all_goals exact ⟨⟨k + 1, hkm, by go_num, (HRk.out.set hkm _).as (fun j hj => by rw [← HV.out]; exact soFar_step), HBk.out.setCell (Nat.le_of_eq HGN.out) _⟩, by simp [intOf]; omega⟩
          · have hke : k = m := by omega
            subst hke
            have HRx : Hid (BRow wr gn k (reachF s (ts.take (i + 1)) rowZero)) := HRk.out.as fun j hj => by rw [soFar_in (by omega), HSt.out]
            have HBx := hidK (HB.out.trans (HBk.out.mono HB.out.size))
            clear HRk HBk
            go_wp2_with fail
            exact ⟨⟨i + 1, gn, by omega, by go_num, rfl, HRx.out, HBx.out⟩, by simp [intOf]; omega⟩
      | false =>
        rw [hmany] at k0 HCj HOne
        clear ht hsn hmemb hf hzm had HCi hW2
        go_wp2_with fail
        have HRs : Hid (BRow (W2.setCell ⟨gn, 0, none⟩ (.bool false)) gn m (soFar (stepR t s f) 1)) := (HRn.out.set (Nat.zero_le _) false).as fun j hj => by have h := soFar_zero (h := stepR t s f) (j := j); rw [(step_one hmany s f 0).1] at h; exact h
        have HBs : Hid (Below wr.heap.size wr (W2.setCell ⟨gn, 0, none⟩ (.bool false))) := HBn.out.setCell (Nat.le_of_eq HGN.out) _
        clear k0 k1 k2 r0 c0 f0 HRn HBn HBW hmk
        go_loopw [9] (fun s9 wx => ∃ k : Nat, k ≤ m ∧ s9 = .int .i64 ((k : Int) + 1) ∧ Hid (BRow wx gn m (soFar (stepR t s f) (k + 1))) ∧ Hid (Below wr.heap.size wr wx)) (fun v _ => m + 1 - (intOf v).toNat)
        case atStart => exact ⟨0, Nat.zero_le _, rfl, HRs.out, HBs.out⟩
        case round =>
          clear HRs HBs
          obtain ⟨k, hk, rfl, HRk, HBk⟩ := hrel
          obtain ⟨k0, k1, k2⟩ := HCj.out _ (HB.out.trans (HBk.out.mono HB.out.size))
          by_cases hkm : k + 1 ≤ m
          · have rk := (HR.out.keep (HBk.out.block g HR.out.lt)).cell (j := k) (by omega)
            have ck := HRk.out.cell (j := k + 1) hkm
            have fk := HRk.out.free
            obtain ⟨c, hc⟩ : ∃ c, s[k]? = some c := ⟨_, List.getElem?_eq_getElem (by rw [HM.out]; omega)⟩
            have gk := HG.out k c (by omega) hc
            obtain ⟨b1, hb1⟩ : ∃ b, f k = b := ⟨_, rfl⟩
            rw [hb1] at rk
            have HV0 : Hid (stepR t s f (k + 1) = (b1 && t.of c)) := by show _ = _; rw [(step_one hmany s f k).2, hb1]; unfold standsF; rw [hc]
            clear hb1 hc
            cases b1 with
            | true =>
              have HV : Hid (stepR t s f (k + 1) = t.of c) := HV0.out
              clear HV0
              go_wp2_with fail
              have hgg : ¬ g = gn := HGG.out
              have hgp : ¬ gp = gn := HGP.out
              have i1 : (0 : Int) ≤ (k : Int) := by omega
              have i2 : (k : Int) < (m : Int) + 1 := by omega
              have i3 : (k : Int) + 1 < (m : Int) + 1 := by omega
              have i4 : (k : Int) < (m : Int) := by omega
              have i5 : (i : Int) < (n : Int) := by omega
              have i6 : (0 : Int) ≤ (k : Int) + 1 := by omega
              have i7 : k < m + 1 := by omega
              have i8 : k + 1 < m + 1 := by omega
              have i9 : k < m := by omega
              have dw1 : IntKind.i64.wrap ((k : Int) + 1 - 1) = (k : Int) := by rw [show (k : Int) + 1 - 1 = (k : Int) by omega]; exact wrap_okF (by omega) (by omega)
              have dw2 : IntKind.i64.wrap (k : Int) = (k : Int) := wrap_okF (by omega) (by omega)
              go_region_held3 (fun X => X.cell? ⟨g, k, none⟩ = some (.bool true) ∧ X.cell? ⟨gp, o + i * 3, none⟩ = some (.bool false) ∧ X.cell? ⟨gp, o + i * 3 + 1, none⟩ = some (.bool t.not) ∧ X.cell? ⟨gp, o + i * 3 + 2, none⟩ = some (.string zm)) (first | go_keep | (refine ⟨?_, ?_, ?_, ?_⟩ <;> (first | (rw [World.cell?_setCell_far _ _ _ _ (show gn ≠ g from fun h => hgg h.symm)]; assumption) | (rw [World.cell?_setCell_far _ _ _ _ (show gn ≠ gp from fun h => hgp h.symm)]; assumption)))) ((go_at_call 164; refine (HOne.out _ _).mono ?_; rintro e w3 ⟨rfl, hb3⟩; have HB3 := hidK hb3; have rk3 := (hb3.cell (p := ⟨g, k, none⟩) (World.block_lt_of_cell? _ _ rk)).trans rk; have k03 := (hb3.cell (p := ⟨gp, o + i * 3, none⟩) (World.block_lt_of_cell? _ _ k0)).trans k0; have k13 := (hb3.cell (p := ⟨gp, o + i * 3 + 1, none⟩) (World.block_lt_of_cell? _ _ k1)).trans k1; have k23 := (hb3.cell (p := ⟨gp, o + i * 3 + 2, none⟩) (World.block_lt_of_cell? _ _ k2)).trans k2; have ck3 := (hb3.cell (p := ⟨gn, k + 1, none⟩) (World.block_lt_of_cell? _ _ ck)).trans ck; have fk3 := (HRk.out.keep (hb3.block gn HRk.out.lt)).free; clear hb3))
              all_goals (try go_wp2_with fail)
              have HBz : Hid (Below _ _ w3) := (by first | exact HBk.out.trans (HB3.out.mono HBk.out.size) | exact HBk.out.drew.trans (HB3.out.mono HBk.out.size))
              all_goals exact ⟨⟨k + 1, hkm, by go_num, ((HRk.out.keep (HB3.out.block gn HRk.out.lt)).set hkm (t.of c)).as (fun j hj => by have h := soFar_step (h := stepR t s f) (k := k + 1) (j := j); rw [HV.out] at h; exact h), HBz.out.setCell (p := ⟨gn, k + 1, none⟩) (Nat.le_of_eq HGN.out) _⟩, by simp [intOf]; omega⟩
            | false =>
              have HV : Hid (stepR t s f (k + 1) = false) := HV0.out
              clear HV0
              go_wp2_with fail
              go_region
              all_goals (try go_wp2_with fail)
              all_goals exact ⟨⟨k + 1, hkm, by go_num, ((HRk.out.set hkm false).as (fun j hj => by have h := soFar_step (h := stepR t s f) (k := k + 1) (j := j); rw [HV.out] at h; exact h)).keep rfl, (HBk.out.setCell (p := ⟨gn, k + 1, none⟩) (Nat.le_of_eq HGN.out) _).drew⟩, by simp [intOf]; omega⟩
          · have hke : k = m := by omega
            subst hke
            have HRx : Hid (BRow wr gn k (reachF s (ts.take (i + 1)) rowZero)) := HRk.out.as fun j hj => by rw [soFar_in (by omega), HSt.out]
            have HBx := hidK (HB.out.trans (HBk.out.mono HB.out.size))
            clear HRk HBk
            go_wp2_with fail
            exact ⟨⟨i + 1, gn, by omega, by go_num, rfl, HRx.out, HBx.out⟩, by simp [intOf]; omega⟩
    · have hie : i = n := by omega
      subst hie
      have hall : ts.take i = ts := List.take_of_length_le (by rw [HN.out]; omega)
      have rm := HR.out.cell (j := m) (Nat.le_refl _)
      rw [hall, ← HM.out, reach_mat, HM.out, HAns.out] at rm
      have HBx := hidK (HBw1.out.trans (HB.out.mono HBw1.out.size))
      clear hall HR HB
      go_wp2_with fail
      all_goals go_ret
      all_goals exact ⟨rfl, HBx.out⟩
end Go.Proofs.YtlfcjcaofhcfnaaGreatDoor
