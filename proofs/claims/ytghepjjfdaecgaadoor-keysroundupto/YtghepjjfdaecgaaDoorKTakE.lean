/-
  Keys: the end of a sequence; a byte, whatever is held.
-/
import Derived.Test.YtghepjjfdaecgaaDoorKTakD
namespace Go.Proofs.YtghepjjfdaecgaaDoor
open Go.RowKit
set_option linter.unusedVariables false
set_option maxRecDepth 100000

theorem tail_text {B d : Nat} {w0 W : World} {g n cap : Nat} {l : List UInt8} (hd : Dc B d w0 W (.slice (some ⟨g, 0, none⟩) n cap) l) (hn : l.length = n) (h2 : 2 ≤ n) :
    (convert 52 9 (.slice (some ⟨g, 2, none⟩) (n - 2) (cap - 2))).run Tryd.prog W = .ok (.string (str (l.drop 2))) W := by
  have hlen : (l.drop 2).length = n - 2 := by rw [List.length_drop, hn]
  rw [← hlen]
  refine run_convert_bytes_back W 52 9 5 ⟨g, 2, none⟩ (cap - 2) (l.drop 2) underBy Tryd.underlying5 Tryd.underlying9 fun i hi => ?_
  have hi2 : 2 + i < l.length := by rw [List.length_drop] at hi; omega
  have := World.ownsRow.cells hd.own (g := g) rfl (2 + i) (bv l[2 + i]) (by rw [List.getElem?_map, List.getElem?_eq_getElem hi2]; rfl)
  rw [List.getElem_drop]
  rw [addr_add, Nat.zero_add] at this
  rw [addr_add]
  exact this
set_option maxHeartbeats 4000000 in
theorem seq_end {B d : Nat} {w0 w : World} {v : Value} {l : List UInt8} (h : Dc B d w0 w v l) (hT : Tabs w0) (hl : l.length ≤ 999) (h2 : 2 ≤ l.length) (b : UInt8) (h64 : 64 ≤ b.toNat) (h127 : b.toNat < 127) : Calls Tryd.prog 51 #[.pointer (some ⟨d, 0, none⟩), .int .u8 b.toNat] w (Tk B d w0 w ([], inSeqF (l.drop 2) [b])) := by
  obtain ⟨W, Z, hW, hZ, HZ, HW, k0, k1, f0, f1⟩ := key_new w
  have HBw : Hid (B ≤ w.heap.size) := h.bw
  have hd := h.more HZ.out.below
  have HFW : Hid (Ft d w W) := Ft.of HZ.out.below
  have HdZ : Hid (Z ≠ d) := by have := lt_block h.blk; show _ ≠ _; omega
  have HIn := hidK (inSeq_any (l.drop 2) [b] (by rw [List.length_drop]; omega) (hd.tabs hT))
  obtain ⟨x, hx⟩ : ∃ x, (inSeqF (l.drop 2) [b]).1 = x := ⟨_, rfl⟩
  obtain ⟨y, hy⟩ : ∃ y, (inSeqF (l.drop 2) [b]).2 = y := ⟨_, rfl⟩
  have hxy : inSeqF (l.drop 2) [b] = (x, y) := by rw [← hx, ← hy]
  rw [hx, hy] at HIn
  rw [hxy]
  have hEn : Utf8.encode (b.toNat : Int) = str [b] := by
    rw [enc_eq (by omega)]
    unfold Lib.encodeRune
    rw [Lib.encodeRuneZ_one (by omega) (by omega)]
    simp
  obtain ⟨E, hE⟩ : ∃ E, str [b] = E := ⟨_, rfl⟩
  obtain ⟨S, hS⟩ : ∃ S, str (l.drop 2) = S := ⟨_, rfl⟩
  rw [hE, hS] at HIn
  rw [hE] at hEn
  obtain ⟨bn, hbn⟩ : ∃ bn, b.toNat = bn := ⟨_, rfl⟩
  rw [hbn] at hEn h64 h127 ⊢
  have hw : IntKind.i32.wrap (bn : Int) = (bn : Int) := by
    have := IntKind.wrap_i32 (bn : Int)
    omega
  have i1 : ¬ (bn : Int) < 32 := by omega
  have i2 : ¬ (127 : Int) ≤ (bn : Int) := by omega
  have i3 : ¬ (bn : Int) < 64 := by omega
  have c0 := hd.cell
  obtain ⟨n, hn⟩ : ∃ n, l.length = n := ⟨_, rfl⟩
  obtain ⟨a, cap, rfl, hg⟩ := hd.len
  obtain ⟨g, rfl, hnc⟩ := hg (fun e => by rw [e] at h2; simp at h2)
  rw [hn] at c0 hd hnc h2
  have hcv := tail_text hd hn h2
  rw [hS] at hcv
  have HD := hidK hd
  have hnd : W.heap.size ≠ d := by have := lt_block hd.blk; omega
  have HnD := hidK hnd
  have hle2 : (2 : Int) ≤ (n : Int) := by omega
  have hnc2 : (n : Int) ≤ (cap : Int) := by omega
  have HS0 : Hid (cap = 2 → n = 2 ∧ S = ⟨#[]⟩) := fun e => ⟨by omega, by rw [← hS, List.drop_of_length_le (by omega)]; rfl⟩
  clear h hd hn hl hx hy hxy hE hS hbn h64 h127 hg hT hnd h2 hnc
  have HGo : Hid (∀ (w1 : World), Below W.heap.size W w1 → ∀ Q, Q = w1.heap.size → ∀ V, w1.alloc (.cells #[.int .i64 x, .int .i64 y] 30) = V → Dc B d w0 V (.slice (some ⟨g, 0, none⟩) n cap) l ∧ Ft d w V ∧ V.heap[Z]? = some (.cells #[.int .i64 0, .int .i64 0] 30 (0, 0)) ∧ V.heap[Q]? = some (.cells #[.int .i64 x, .int .i64 y] 30 (0, 0)) ∧ Q ≠ d) := by
    rintro w1 hb1 Q rfl V rfl
    have hb2 : Below W.heap.size W (w1.alloc (.cells #[.int .i64 x, .int .i64 y] 30)) := below_step hb1 ((Below.refl _ _).alloc (Nat.le_refl _) _)
    refine ⟨HD.out.more hb2, HFW.out.trans (Ft.of hb2), (hb2.block Z (lt_block HZ.out.key)).trans HZ.out.key, heap_alloc_new w1 _, ?_⟩
    have h1 := lt_block HD.out.blk
    have h3 := hb1.size
    omega
  by_cases hc2 : cap = 2
  · obtain ⟨e1, e2⟩ := HS0.out hc2
    subst e1 e2 hc2
    have hcv0 : (convert 52 9 (.slice (some ⟨g, 0, none⟩) 0 0)).run Tryd.prog W = .ok (.string ⟨#[]⟩) W := by rw [run_convert_bytes_string W 52 9 5 (some ⟨g, 0, none⟩) 0 0 underBy Tryd.underlying5 Tryd.underlying9]; rfl
    clear HS0 hcv
    go_enter Tryd.func51, Tryd.ntmps51
    go_wp2_with fail
    refine HIn.out.mono ?_
    rintro e w1 ⟨rfl, hb1⟩
    obtain ⟨V, hV⟩ : ∃ V, w1.alloc (.cells #[.int .i64 x, .int .i64 y] 30) = V := ⟨_, rfl⟩
    obtain ⟨Q, hQ⟩ : ∃ Q, w1.heap.size = Q := ⟨_, rfl⟩
    obtain ⟨g1, g2, g3, g4, g5⟩ := HGo.out w1 hb1 Q hQ.symm V hV
    have HDr := hidK (drop_any g1)
    have HG := hidK (And.intro g2 (And.intro g3 (And.intro g4 g5)))
    clear g1 g2 g3 g4 g5 hb1 c0 k0 k1 f0 f1 hcv0
    go_wp2_with fail
    refine HDr.out.mono ?_
    rintro e w5 ⟨rfl, ⟨v5, hd5⟩, hf5⟩
    have hz5 : w5.heap[Z]? = some (.cells #[.int .i64 0, .int .i64 0] 30 (0, 0)) := hf5 _ _ _ _ HG.out.2.1 (by decide) HdZ.out
    have hq5 : w5.heap[Q]? = some (.cells #[.int .i64 x, .int .i64 y] 30 (0, 0)) := hf5 _ _ _ _ HG.out.2.2.1 (by decide) HG.out.2.2.2
    have HZ5 := hidK hz5
    have HD5 := hidK hd5
    have HF5 := hidK (HG.out.1.trans hf5)
    have q0 : w5.cell? ⟨Q, 0, none⟩ = some (.int .i64 x) := cell_at hq5 0
    have q1 : w5.cell? ⟨Q, 1, none⟩ = some (.int .i64 y) := cell_at hq5 1
    have z0 : w5.cell? ⟨Z, 0, none⟩ = some (.int .i64 0) := cell_at hz5 0
    have z1 : w5.cell? ⟨Z, 1, none⟩ = some (.int .i64 0) := cell_at hz5 1
    have z2 : w5.frozen? ⟨Z, 0, none⟩ = false := free_at hz5 0
    have z3 : w5.frozen? ⟨Z, 1, none⟩ = false := free_at hz5 1
    clear hz5 hd5 hf5 hq5
    go_wp2_with fail
    refine dc_end rfl rfl HZ5.out (Nat.le_trans HBw.out HW.out) HD5.out HF5.out HW.out rfl rfl ?_
    intro X hX hX2
    exact ⟨rfl, ⟨_, hX⟩, hX2⟩
  · have hz2 : ¬ (cap - 2 = 0) := by omega
    have hz3 : (2 : Int) < (cap : Int) := by omega
    clear hc2 HS0
    go_enter Tryd.func51, Tryd.ntmps51
    go_wp2_with fail
    refine HIn.out.mono ?_
    rintro e w1 ⟨rfl, hb1⟩
    obtain ⟨V, hV⟩ : ∃ V, w1.alloc (.cells #[.int .i64 x, .int .i64 y] 30) = V := ⟨_, rfl⟩
    obtain ⟨Q, hQ⟩ : ∃ Q, w1.heap.size = Q := ⟨_, rfl⟩
    obtain ⟨g1, g2, g3, g4, g5⟩ := HGo.out w1 hb1 Q hQ.symm V hV
    have HDr := hidK (drop_any g1)
    have HG := hidK (And.intro g2 (And.intro g3 (And.intro g4 g5)))
    clear g1 g2 g3 g4 g5 hb1 c0 k0 k1 f0 f1 hcv
    go_wp2_with fail
    refine HDr.out.mono ?_
    rintro e w5 ⟨rfl, ⟨v5, hd5⟩, hf5⟩
    have hz5 : w5.heap[Z]? = some (.cells #[.int .i64 0, .int .i64 0] 30 (0, 0)) := hf5 _ _ _ _ HG.out.2.1 (by decide) HdZ.out
    have hq5 : w5.heap[Q]? = some (.cells #[.int .i64 x, .int .i64 y] 30 (0, 0)) := hf5 _ _ _ _ HG.out.2.2.1 (by decide) HG.out.2.2.2
    have HZ5 := hidK hz5
    have HD5 := hidK hd5
    have HF5 := hidK (HG.out.1.trans hf5)
    have q0 : w5.cell? ⟨Q, 0, none⟩ = some (.int .i64 x) := cell_at hq5 0
    have q1 : w5.cell? ⟨Q, 1, none⟩ = some (.int .i64 y) := cell_at hq5 1
    have z0 : w5.cell? ⟨Z, 0, none⟩ = some (.int .i64 0) := cell_at hz5 0
    have z1 : w5.cell? ⟨Z, 1, none⟩ = some (.int .i64 0) := cell_at hz5 1
    have z2 : w5.frozen? ⟨Z, 0, none⟩ = false := free_at hz5 0
    have z3 : w5.frozen? ⟨Z, 1, none⟩ = false := free_at hz5 1
    clear hz5 hd5 hf5 hq5
    go_wp2_with fail
    refine dc_end rfl rfl HZ5.out (Nat.le_trans HBw.out HW.out) HD5.out HF5.out HW.out rfl rfl ?_
    intro X hX hX2
    exact ⟨rfl, ⟨_, hX⟩, hX2⟩
theorem seqT_any {B d : Nat} {w0 w : World} {v : Value} {l : List UInt8} (h : Dc B d w0 w v l) (hT : Tabs w0) (hl : l.length ≤ 999) (h2 : 2 ≤ l.length) (b : UInt8) : Calls Tryd.prog 51 #[.pointer (some ⟨d, 0, none⟩), .int .u8 b.toNat] w (Tk B d w0 w (seqT l b)) := by
  unfold seqT
  by_cases h1 : b.toNat < 32 ∨ 127 ≤ b.toNat
  · rw [if_pos h1]
    exact seq_again h hT b h1
  · rw [if_neg h1]
    by_cases h3 : b.toNat < 64
    · rw [if_pos h3]
      exact seq_hold h hl b (by omega) h3 rfl
    · rw [if_neg h3]
      exact seq_end h hT hl h2 b (by omega) (by omega)
theorem takeF_seq {l : List UInt8} (h : l.take 2 = [27, 91]) (b : UInt8) : takeF l b = seqT l b := by
  match l, h with
  | [], h => cases h
  | [a], h => simp at h
  | a :: c :: r, h =>
    obtain ⟨rfl, rfl⟩ : a = 27 ∧ c = 91 := by simpa using h
    rfl
theorem takeF_shift {l : List UInt8} (h : l.take 2 = [27, 79]) (b : UInt8) : takeF l b = ([], inShiftF (Lib.encodeRune b.toNat)) := by
  match l, h with
  | [], h => cases h
  | [a], h => simp at h
  | a :: c :: r, h =>
    obtain ⟨rfl, rfl⟩ : a = 27 ∧ c = 79 := by simpa using h
    rfl
theorem takeF_chr {l : List UInt8} (h0 : l ≠ []) (h1 : l.take 2 ≠ [27, 91]) (h2 : l.take 2 ≠ [27, 79]) (h3 : l ≠ [27]) (b : UInt8) : takeF l b = chF l b := by
  unfold takeF
  split
  · exact absurd rfl h0
  · exact absurd rfl h3
  · exact absurd rfl h1
  · exact absurd rfl h2
  · rfl
theorem behind_ne {l : List UInt8} (b : UInt8) (h : l ≠ []) : (behindF (l ++ [b])).1 ≠ [] := by
  match l, h with
  | a :: r, _ =>
    by_cases ha : a = 27
    · subst ha
      show r ++ [b] ≠ []
      simp
    · rw [List.cons_append, behind_not ha]
      simp
theorem take_any {B d : Nat} {w0 w : World} {v : Value} {l : List UInt8} (h : Dc B d w0 w v l) (hT : Tabs w0) (hl : l.length ≤ 999) (b : UInt8) : Calls Tryd.prog 25 #[.pointer (some ⟨d, 0, none⟩), .int .u8 b.toNat] w (Tk B d w0 w (takeF l b)) := by
  by_cases h0 : l = []
  · subst h0
    exact take0_any h hT b
  · by_cases h1 : l.take 2 = [27, 91]
    · rw [takeF_seq h1]
      exact take_seq h h1 b fun W v1 hd => seqT_any hd hT hl (by have := congrArg List.length h1; simp at this; omega) b
    · by_cases h2 : l.take 2 = [27, 79]
      · exact take_shift h hT h2 b (takeF_shift h2 b)
      · by_cases h3 : l = [27]
        · by_cases hb : b = 91 ∨ b = 79
          · refine take_hold h h3 b hb ?_
            subst h3
            unfold takeF
            rw [if_pos hb]
            rfl
          · refine take_meta h h3 b (fun e => hb (.inl e)) (fun e => hb (.inr e)) fun W v1 hd => ?_
            by_cases hlo : b.toNat < 128
            · have e : takeF l b = ([], ((loneF b.toNat).1, (loneF b.toNat).2 + (behindF l).2)) := by
                subst h3
                unfold takeF
                rw [if_neg hb, if_pos hlo]
                rfl
              rw [e]
              exact takeFirst_low hd b hlo
            · have e : takeF l b = chF l b := by
                subst h3
                unfold takeF
                rw [if_neg hb, if_neg hlo]
                rfl
              rw [e]
              exact takeFirst_high hd b hlo fun W2 v2 hd2 => takeCharacter_any hd2 hT hl b (behind_ne b h0)
        · rw [takeF_chr h0 h1 h2 h3]
          exact take_chr h h0 h1 h2 h3 b fun W v1 hd => takeCharacter_any hd hT hl b (behind_ne b h0)
end Go.Proofs.YtghepjjfdaecgaaDoor
