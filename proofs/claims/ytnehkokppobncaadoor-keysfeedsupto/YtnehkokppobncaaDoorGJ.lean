/-
  Keys: a byte.
  Keys: a byte, whatever is held.
  Keys: the end of a sequence; a byte, whatever is held.
-/
import Derived.Test.YtnehkokppobncaaDoorGI
import Derived.BigQuiet
import Derived.Deep.QuietTactic
namespace Go.Proofs.YtnehkokppobncaaDoor
open Go.RowKit
set_option linter.unusedVariables false
set_option maxRecDepth 100000

theorem take_text {B d : Nat} {w0 W : World} {g n cap : Nat} {l : List UInt8} (hd : Dc B d w0 W (.slice (some ⟨g, 0, none⟩) n cap) l) (hn : l.length = n) (k : Nat) (hk : min n 2 = k) (j : Nat) :
    (convert 39 9 (.slice (some ⟨g, 0, none⟩) k cap)).run Tryd.prog (W.drewN j) = .ok (.string (str (l.take 2))) (W.drewN j) := by
  have hlen : (l.take 2).length = k := by rw [List.length_take, hn]; omega
  rw [← hlen]
  refine run_convert_bytes_back (W.drewN j) 39 9 5 ⟨g, 0, none⟩ cap (l.take 2) underBy Tryd.underlying5 Tryd.underlying9 fun i hi => ?_
  have hi2 : i < l.length := by rw [List.length_take] at hi; omega
  have := World.ownsRow.cells hd.own (g := g) rfl i (bv l[i]) (by rw [List.getElem?_map, List.getElem?_eq_getElem hi2]; rfl)
  rw [List.getElem_take]
  exact this
set_option maxHeartbeats 4000000 in
theorem take_seq {B d : Nat} {w0 w : World} {v : Value} {l : List UInt8} (h : Dc B d w0 w v l) (ht : l.take 2 = [27, 91]) (b : UInt8) {st : St} (hC : ∀ W v1, Dc B d w0 W v1 l → Calls Tryd.prog 24 #[.pointer (some ⟨d, 0, none⟩), .int .u8 b.toNat] W (Tk B d w0 W st)) : Calls Tryd.prog 18 #[.pointer (some ⟨d, 0, none⟩), .int .u8 b.toNat] w (Tk B d w0 w st) := by
  obtain ⟨W, Z, hW, hZ, HZ, HW, k0, k1, f0, f1⟩ := key_new w
  have HBw : Hid (B ≤ w.heap.size) := h.bw
  have hd := h.more HZ.out.below
  have HFW : Hid (∀ j, Ft d w (W.drewN j)) := fun j => (Ft.of HZ.out.below).trans (Ft.of (below_drewN W j))
  have HZD : Hid (∀ j, (W.drewN j).heap[Z]? = some (.cells #[.int .i64 0, .int .i64 0] 36 (0, 0))) := fun j => HZ.out.key
  have HdZ : Hid (Z ≠ d) := by have := lt_block h.blk; show _ ≠ _; omega
  have c0 := hd.cell
  have HD := hidK (fun j => hd.more (below_drewN W j))
  have hne : l ≠ [] := fun e => by rw [e] at ht; cases ht
  obtain ⟨n, hn⟩ : ∃ n, l.length = n := ⟨_, rfl⟩
  obtain ⟨g, cap, rfl, hnc⟩ : ∃ g cap, v = .slice (some ⟨g, 0, none⟩) n cap ∧ n ≤ cap := by
    rcases hd.own.2 with ⟨_, h0⟩ | ⟨g, cap, cur, e, hb, hg, h1, h2, h3, h4⟩
    · exact absurd (List.length_eq_zero_iff.1 h0) hne
    · exact ⟨g, cap, by rw [e, hn], by rw [← hn]; exact h1⟩
  obtain ⟨k, hk⟩ : ∃ k, min n 2 = k := ⟨_, rfl⟩
  have hcv := take_text hd hn k hk
  have hmin : min (n : Int) 2 = (k : Int) := by omega
  have hkc : (k : Int) ≤ (cap : Int) := by omega
  have hkn : k ≤ cap := by omega
  obtain ⟨S, hS⟩ : ∃ S, str (l.take 2) = S := ⟨_, rfl⟩
  have tS : S.toList = l.take 2 := by rw [← hS, str_toList]
  rw [hS] at hcv
  have y1 : (S.toList == [27, 91]) = true := by rw [tS, ht]; rfl
  have HC := hidK (fun j => hC (W.drewN j) _ (HD.out j))
  obtain ⟨bn, hbn⟩ : ∃ bn, b.toNat = bn := ⟨_, rfl⟩
  rw [hbn] at HC ⊢
  clear h hd hn hk hS tS ht hne hC hnc hbn
  go_enter Tryd.func18, Tryd.ntmps18
  go_wp2_with fail
  go_quiet (fail)
  rename_i nq
  clear hcv c0 k0 k1 f0 f1
  go_wp2_with fail
  refine (HC.out nq).mono ?_
  rintro e w5 ⟨rfl, ⟨v5, hd5⟩, hf5⟩
  have hz5 : w5.heap[Z]? = some (.cells #[.int .i64 0, .int .i64 0] 36 (0, 0)) := hf5 _ _ _ _ (HZD.out nq) (by decide) HdZ.out
  have HZ5 := hidK hz5
  have HD5 := hidK hd5
  have HF5 := hidK ((HFW.out nq).trans hf5)
  have z0 : w5.cell? ⟨Z, 0, none⟩ = some (.int .i64 0) := cell_at hz5 0
  have z1 : w5.cell? ⟨Z, 1, none⟩ = some (.int .i64 0) := cell_at hz5 1
  have z2 : w5.frozen? ⟨Z, 0, none⟩ = false := free_at hz5 0
  have z3 : w5.frozen? ⟨Z, 1, none⟩ = false := free_at hz5 1
  clear hz5 hd5 hf5
  go_wp2_with fail
  refine dc_end rfl rfl HZ5.out (Nat.le_trans HBw.out HW.out) HD5.out HF5.out HW.out rfl rfl ?_
  intro X hX hX2
  exact ⟨rfl, ⟨_, hX⟩, hX2⟩
set_option maxHeartbeats 4000000 in
theorem take_chr {B d : Nat} {w0 w : World} {v : Value} {l : List UInt8} (h : Dc B d w0 w v l) (hne : l ≠ []) (h1 : l.take 2 ≠ [27, 91]) (h2 : l.take 2 ≠ [27, 79]) (h3 : l ≠ [27]) (b : UInt8) {st : St} (hC : ∀ W v1, Dc B d w0 W v1 l → Calls Tryd.prog 28 #[.pointer (some ⟨d, 0, none⟩), .int .u8 b.toNat] W (Tk B d w0 W st)) : Calls Tryd.prog 18 #[.pointer (some ⟨d, 0, none⟩), .int .u8 b.toNat] w (Tk B d w0 w st) := by
  obtain ⟨W, Z, hW, hZ, HZ, HW, k0, k1, f0, f1⟩ := key_new w
  have HBw : Hid (B ≤ w.heap.size) := h.bw
  have hd := h.more HZ.out.below
  have HFW : Hid (∀ j, Ft d w (W.drewN j)) := fun j => (Ft.of HZ.out.below).trans (Ft.of (below_drewN W j))
  have HZD : Hid (∀ j, (W.drewN j).heap[Z]? = some (.cells #[.int .i64 0, .int .i64 0] 36 (0, 0))) := fun j => HZ.out.key
  have HdZ : Hid (Z ≠ d) := by have := lt_block h.blk; show _ ≠ _; omega
  have c0 := hd.cell
  have HD := hidK (fun j => hd.more (below_drewN W j))
  obtain ⟨n, hn⟩ : ∃ n, l.length = n := ⟨_, rfl⟩
  obtain ⟨g, cap, rfl, hnc⟩ : ∃ g cap, v = .slice (some ⟨g, 0, none⟩) n cap ∧ n ≤ cap := by
    rcases hd.own.2 with ⟨_, h0⟩ | ⟨g, cap, cur, e, hb, hg, h1, h2, h3, h4⟩
    · exact absurd (List.length_eq_zero_iff.1 h0) hne
    · exact ⟨g, cap, by rw [e, hn], by rw [← hn]; exact h1⟩
  obtain ⟨k, hk⟩ : ∃ k, min n 2 = k := ⟨_, rfl⟩
  have hcv := take_text hd hn k hk
  have hmin : min (n : Int) 2 = (k : Int) := by omega
  have hkc : (k : Int) ≤ (cap : Int) := by omega
  have hkn : k ≤ cap := by omega
  obtain ⟨S, hS⟩ : ∃ S, str (l.take 2) = S := ⟨_, rfl⟩
  have tS : S.toList = l.take 2 := by rw [← hS, str_toList]
  rw [hS] at hcv
  have t3 : l.take 2 ≠ [27] := by
    intro e
    match l, h3, e with
    | [], _, e => cases e
    | [a], h3, e => exact h3 e
    | a :: c :: r, _, e => simp at e
  have t4 : l.take 2 ≠ [] := by
    intro e
    match l, hne, e with
    | a :: r, _, e => simp at e
  have y1 : (S.toList == [27, 91]) = false := by rw [tS]; simpa using h1
  have y2 : (S.toList == [27, 79]) = false := by rw [tS]; simpa using h2
  have y3 : (S.toList == [27]) = false := by rw [tS]; simpa using t3
  have y4 : ¬ S.toList = [] := by rw [tS]; exact t4
  have y5 : S.toList.isEmpty = false := by rw [tS]; simpa using t4
  have HC := hidK (fun j => hC (W.drewN j) _ (HD.out j))
  obtain ⟨bn, hbn⟩ : ∃ bn, b.toNat = bn := ⟨_, rfl⟩
  rw [hbn] at HC ⊢
  clear h hd hn hk hS tS h1 h2 h3 t3 t4 hne hC hnc hbn
  go_enter Tryd.func18, Tryd.ntmps18
  go_wp2_with fail
  go_quiet (fail)
  rename_i nq
  clear hcv c0 k0 k1 f0 f1
  go_wp2_with fail
  refine (HC.out nq).mono ?_
  rintro e w5 ⟨rfl, ⟨v5, hd5⟩, hf5⟩
  have hz5 : w5.heap[Z]? = some (.cells #[.int .i64 0, .int .i64 0] 36 (0, 0)) := hf5 _ _ _ _ (HZD.out nq) (by decide) HdZ.out
  have HZ5 := hidK hz5
  have HD5 := hidK hd5
  have HF5 := hidK ((HFW.out nq).trans hf5)
  have z0 : w5.cell? ⟨Z, 0, none⟩ = some (.int .i64 0) := cell_at hz5 0
  have z1 : w5.cell? ⟨Z, 1, none⟩ = some (.int .i64 0) := cell_at hz5 1
  have z2 : w5.frozen? ⟨Z, 0, none⟩ = false := free_at hz5 0
  have z3 : w5.frozen? ⟨Z, 1, none⟩ = false := free_at hz5 1
  clear hz5 hd5 hf5
  go_wp2_with fail
  refine dc_end rfl rfl HZ5.out (Nat.le_trans HBw.out HW.out) HD5.out HF5.out HW.out rfl rfl ?_
  intro X hX hX2
  exact ⟨rfl, ⟨_, hX⟩, hX2⟩
set_option maxHeartbeats 4000000 in
theorem take_shift {B d : Nat} {w0 w : World} {v : Value} {l : List UInt8} (h : Dc B d w0 w v l) (hT : Tabs w0) (ht : l.take 2 = [27, 79]) (b : UInt8) {st : St} (hst : st = ([], inShiftF (Lib.encodeRune b.toNat))) : Calls Tryd.prog 18 #[.pointer (some ⟨d, 0, none⟩), .int .u8 b.toNat] w (Tk B d w0 w st) := by
  obtain ⟨W, Z, hW, hZ, HZ, HW, k0, k1, f0, f1⟩ := key_new w
  have HBw : Hid (B ≤ w.heap.size) := h.bw
  have hd := h.more HZ.out.below
  have HFW : Hid (∀ j, Ft d w (W.drewN j)) := fun j => (Ft.of HZ.out.below).trans (Ft.of (below_drewN W j))
  have HZD : Hid (∀ j, (W.drewN j).heap[Z]? = some (.cells #[.int .i64 0, .int .i64 0] 36 (0, 0))) := fun j => HZ.out.key
  have HdZ : Hid (Z ≠ d) := by have := lt_block h.blk; show _ ≠ _; omega
  have c0 := hd.cell
  have HD := hidK (fun j => hd.more (below_drewN W j))
  have hne : l ≠ [] := fun e => by rw [e] at ht; cases ht
  obtain ⟨n, hn⟩ : ∃ n, l.length = n := ⟨_, rfl⟩
  obtain ⟨g, cap, rfl, hnc⟩ : ∃ g cap, v = .slice (some ⟨g, 0, none⟩) n cap ∧ n ≤ cap := by
    rcases hd.own.2 with ⟨_, h0⟩ | ⟨g, cap, cur, e, hb, hg, h1, h2, h3, h4⟩
    · exact absurd (List.length_eq_zero_iff.1 h0) hne
    · exact ⟨g, cap, by rw [e, hn], by rw [← hn]; exact h1⟩
  obtain ⟨k, hk⟩ : ∃ k, min n 2 = k := ⟨_, rfl⟩
  have hcv := take_text hd hn k hk
  have hmin : min (n : Int) 2 = (k : Int) := by omega
  have hkc : (k : Int) ≤ (cap : Int) := by omega
  have hkn : k ≤ cap := by omega
  obtain ⟨S, hS⟩ : ∃ S, str (l.take 2) = S := ⟨_, rfl⟩
  have tS : S.toList = l.take 2 := by rw [← hS, str_toList]
  rw [hS] at hcv
  have y1 : (S.toList == [27, 91]) = false := by rw [tS, ht]; rfl
  have y2 : (S.toList == [27, 79]) = true := by rw [tS, ht]; rfl
  have HDr := hidK (fun j => drop_any (HD.out j))
  have HTs := hidK (fun X v' l' (hX : Dc B d w0 X v' l') => hX.tabs hT)
  have hb8 := b.toNat_lt
  have hEn : Utf8.encode (b.toNat : Int) = str (Lib.encodeRune b.toNat) := enc_eq (by omega)
  obtain ⟨E, hE⟩ : ∃ E, str (Lib.encodeRune b.toNat) = E := ⟨_, rfl⟩
  obtain ⟨x, hx⟩ : ∃ x, (inShiftF (Lib.encodeRune b.toNat)).1 = x := ⟨_, rfl⟩
  obtain ⟨y, hy⟩ : ∃ y, (inShiftF (Lib.encodeRune b.toNat)).2 = y := ⟨_, rfl⟩
  have HSh : Hid (∀ X : World, Tabs X → Calls Tryd.prog 25 #[.string E] X fun r w' => r = .returned (.agg #[.int .i64 x, .int .i64 y]) ∧ Below X.heap.size X w') := fun X hX => by rw [← hE, ← hx, ← hy]; exact inShift_any _ hX
  have HST : Hid (st = ([], (x, y))) := by show _ = _; rw [hst, ← hx, ← hy]
  obtain ⟨bn, hbn⟩ : ∃ bn, b.toNat = bn := ⟨_, rfl⟩
  rw [hE, hbn] at hEn
  rw [hbn] at hb8 ⊢
  have hw : IntKind.i32.wrap (bn : Int) = (bn : Int) := by
    have := IntKind.wrap_i32 (bn : Int)
    omega
  clear h hd hn hk hS tS ht hne hnc hbn hx hy hE hst hT
  go_enter Tryd.func18, Tryd.ntmps18
  go_wp2_with fail
  go_quiet (fail)
  rename_i nq
  clear hcv c0 k0 k1 f0 f1
  go_wp2_with fail
  refine (HDr.out nq).mono ?_
  rintro e w5 ⟨rfl, ⟨v5, hd5⟩, hf5⟩
  have hz5 : w5.heap[Z]? = some (.cells #[.int .i64 0, .int .i64 0] 36 (0, 0)) := hf5 _ _ _ _ (HZD.out nq) (by decide) HdZ.out
  have HZ5 := hidK hz5
  have HD5 := hidK hd5
  have HF5 := hidK ((HFW.out nq).trans hf5)
  clear hz5 hd5 hf5
  go_wp2_with fail
  refine (HSh.out _ (HTs.out _ _ _ HD5.out)).mono ?_
  rintro e w7 ⟨rfl, hb7⟩
  have hz7 : w7.heap[Z]? = some (.cells #[.int .i64 0, .int .i64 0] 36 (0, 0)) := (hb7.block Z (lt_block HZ5.out)).trans HZ5.out
  have HZ7 := hidK hz7
  have HD7 := hidK (HD5.out.more hb7)
  have HF7 := hidK (HF5.out.trans (Ft.of hb7))
  have z0 : w7.cell? ⟨Z, 0, none⟩ = some (.int .i64 0) := cell_at hz7 0
  have z1 : w7.cell? ⟨Z, 1, none⟩ = some (.int .i64 0) := cell_at hz7 1
  have z2 : w7.frozen? ⟨Z, 0, none⟩ = false := free_at hz7 0
  have z3 : w7.frozen? ⟨Z, 1, none⟩ = false := free_at hz7 1
  clear hz7 hb7
  go_wp2_with fail
  refine dc_end rfl rfl HZ7.out (Nat.le_trans HBw.out HW.out) HD7.out HF7.out HW.out rfl rfl ?_
  intro X hX hX2
  rw [HST.out]
  exact ⟨rfl, ⟨_, hX⟩, hX2⟩
set_option maxHeartbeats 4000000 in
theorem take_hold {B d : Nat} {w0 w : World} {v : Value} {l : List UInt8} (h : Dc B d w0 w v l) (ht : l = [27]) (b : UInt8) (hb : b = 91 ∨ b = 79) {st : St} (hst : st = (l ++ [b], (0, 0))) : Calls Tryd.prog 18 #[.pointer (some ⟨d, 0, none⟩), .int .u8 b.toNat] w (Tk B d w0 w st) := by
  obtain ⟨W, Z, hW, hZ, HZ, HW, k0, k1, f0, f1⟩ := key_new w
  have HBw : Hid (B ≤ w.heap.size) := h.bw
  have hd := h.more HZ.out.below
  have HFW : Hid (∀ j, Ft d w (W.drewN j)) := fun j => (Ft.of HZ.out.below).trans (Ft.of (below_drewN W j))
  have HZD : Hid (∀ j, (W.drewN j).heap[Z]? = some (.cells #[.int .i64 0, .int .i64 0] 36 (0, 0))) := fun j => HZ.out.key
  have HdZ : Hid (Z ≠ d) := by have := lt_block h.blk; show _ ≠ _; omega
  have c0 := hd.cell
  have HD := hidK (fun j => hd.more (below_drewN W j))
  have hne : l ≠ [] := fun e => by rw [e] at ht; cases ht
  obtain ⟨n, hn⟩ : ∃ n, l.length = n := ⟨_, rfl⟩
  obtain ⟨g, cap, rfl, hnc⟩ : ∃ g cap, v = .slice (some ⟨g, 0, none⟩) n cap ∧ n ≤ cap := by
    rcases hd.own.2 with ⟨_, h0⟩ | ⟨g, cap, cur, e, hb, hg, h1, h2, h3, h4⟩
    · exact absurd (List.length_eq_zero_iff.1 h0) hne
    · exact ⟨g, cap, by rw [e, hn], by rw [← hn]; exact h1⟩
  obtain ⟨k, hk⟩ : ∃ k, min n 2 = k := ⟨_, rfl⟩
  have hcv := take_text hd hn k hk
  have hmin : min (n : Int) 2 = (k : Int) := by omega
  have hkc : (k : Int) ≤ (cap : Int) := by omega
  have hkn : k ≤ cap := by omega
  obtain ⟨S, hS⟩ : ∃ S, str (l.take 2) = S := ⟨_, rfl⟩
  have tS : S.toList = l.take 2 := by rw [← hS, str_toList]
  rw [hS] at hcv
  have y1 : (S.toList == [27, 91]) = false := by rw [tS, ht]; rfl
  have y2 : (S.toList == [27, 79]) = false := by rw [tS, ht]; rfl
  have y3 : (S.toList == [27]) = true := by rw [tS, ht]; rfl
  have HC : Hid (∀ j, Calls Tryd.prog 26 #[.pointer (some ⟨d, 0, none⟩), .int .u8 b.toNat] (W.drewN j) fun r w' => r = .returned (.agg #[.int .i64 0, .int .i64 0]) ∧ (∃ v', Dc B d w0 w' v' st.1) ∧ Ft d (W.drewN j) w') := fun j => by
    rw [hst]
    exact hold_any (HD.out j) (by rw [ht]; simp) b
  have HST : Hid (st.2 = (0, 0)) := by show _ = _; rw [hst]
  have hbn : b.toNat = 91 ∨ b.toNat = 79 := by rcases hb with e | e <;> subst e <;> simp
  obtain ⟨bn, hbn2⟩ : ∃ bn, b.toNat = bn := ⟨_, rfl⟩
  rw [hbn2] at HC hbn ⊢
  clear h hd hn hk hS tS ht hne hnc hbn2 hst hb
  rcases hbn with e | e
  · subst e
    go_enter Tryd.func18, Tryd.ntmps18
    go_wp2_with fail
    go_quiet (fail)
    rename_i nq
    clear hcv c0 k0 k1 f0 f1
    go_wp2_with fail
    refine (HC.out nq).mono ?_
    rintro e w5 ⟨rfl, ⟨v5, hd5⟩, hf5⟩
    have hz5 : w5.heap[Z]? = some (.cells #[.int .i64 0, .int .i64 0] 36 (0, 0)) := hf5 _ _ _ _ (HZD.out nq) (by decide) HdZ.out
    have HZ5 := hidK hz5
    have HD5 := hidK hd5
    have HF5 := hidK ((HFW.out nq).trans hf5)
    have z0 : w5.cell? ⟨Z, 0, none⟩ = some (.int .i64 0) := cell_at hz5 0
    have z1 : w5.cell? ⟨Z, 1, none⟩ = some (.int .i64 0) := cell_at hz5 1
    have z2 : w5.frozen? ⟨Z, 0, none⟩ = false := free_at hz5 0
    have z3 : w5.frozen? ⟨Z, 1, none⟩ = false := free_at hz5 1
    clear hz5 hd5 hf5
    go_wp2_with fail
    refine dc_end rfl rfl HZ5.out (Nat.le_trans HBw.out HW.out) HD5.out HF5.out HW.out rfl rfl ?_
    intro X hX hX2
    exact ⟨by rw [HST.out], ⟨_, hX⟩, hX2⟩
  · subst e
    go_enter Tryd.func18, Tryd.ntmps18
    go_wp2_with fail
    go_quiet (fail)
    rename_i nq
    clear hcv c0 k0 k1 f0 f1
    go_wp2_with fail
    refine (HC.out nq).mono ?_
    rintro e w5 ⟨rfl, ⟨v5, hd5⟩, hf5⟩
    have hz5 : w5.heap[Z]? = some (.cells #[.int .i64 0, .int .i64 0] 36 (0, 0)) := hf5 _ _ _ _ (HZD.out nq) (by decide) HdZ.out
    have HZ5 := hidK hz5
    have HD5 := hidK hd5
    have HF5 := hidK ((HFW.out nq).trans hf5)
    have z0 : w5.cell? ⟨Z, 0, none⟩ = some (.int .i64 0) := cell_at hz5 0
    have z1 : w5.cell? ⟨Z, 1, none⟩ = some (.int .i64 0) := cell_at hz5 1
    have z2 : w5.frozen? ⟨Z, 0, none⟩ = false := free_at hz5 0
    have z3 : w5.frozen? ⟨Z, 1, none⟩ = false := free_at hz5 1
    clear hz5 hd5 hf5
    go_wp2_with fail
    refine dc_end rfl rfl HZ5.out (Nat.le_trans HBw.out HW.out) HD5.out HF5.out HW.out rfl rfl ?_
    intro X hX hX2
    exact ⟨by rw [HST.out], ⟨_, hX⟩, hX2⟩
set_option maxHeartbeats 4000000 in
theorem take_meta {B d : Nat} {w0 w : World} {v : Value} {l : List UInt8} (h : Dc B d w0 w v l) (ht : l = [27]) (b : UInt8) (hb1 : b ≠ 91) (hb2 : b ≠ 79) {st : St} (hC : ∀ W v1, Dc B d w0 W v1 l → Calls Tryd.prog 27 #[.pointer (some ⟨d, 0, none⟩), .int .u8 b.toNat] W (Tk B d w0 W st)) : Calls Tryd.prog 18 #[.pointer (some ⟨d, 0, none⟩), .int .u8 b.toNat] w (Tk B d w0 w st) := by
  obtain ⟨W, Z, hW, hZ, HZ, HW, k0, k1, f0, f1⟩ := key_new w
  have HBw : Hid (B ≤ w.heap.size) := h.bw
  have hd := h.more HZ.out.below
  have HFW : Hid (∀ j, Ft d w (W.drewN j)) := fun j => (Ft.of HZ.out.below).trans (Ft.of (below_drewN W j))
  have HZD : Hid (∀ j, (W.drewN j).heap[Z]? = some (.cells #[.int .i64 0, .int .i64 0] 36 (0, 0))) := fun j => HZ.out.key
  have HdZ : Hid (Z ≠ d) := by have := lt_block h.blk; show _ ≠ _; omega
  have c0 := hd.cell
  have HD := hidK (fun j => hd.more (below_drewN W j))
  have hne : l ≠ [] := fun e => by rw [e] at ht; cases ht
  obtain ⟨n, hn⟩ : ∃ n, l.length = n := ⟨_, rfl⟩
  obtain ⟨g, cap, rfl, hnc⟩ : ∃ g cap, v = .slice (some ⟨g, 0, none⟩) n cap ∧ n ≤ cap := by
    rcases hd.own.2 with ⟨_, h0⟩ | ⟨g, cap, cur, e, hb, hg, h1, h2, h3, h4⟩
    · exact absurd (List.length_eq_zero_iff.1 h0) hne
    · exact ⟨g, cap, by rw [e, hn], by rw [← hn]; exact h1⟩
  obtain ⟨k, hk⟩ : ∃ k, min n 2 = k := ⟨_, rfl⟩
  have hcv := take_text hd hn k hk
  have hmin : min (n : Int) 2 = (k : Int) := by omega
  have hkc : (k : Int) ≤ (cap : Int) := by omega
  have hkn : k ≤ cap := by omega
  obtain ⟨S, hS⟩ : ∃ S, str (l.take 2) = S := ⟨_, rfl⟩
  have tS : S.toList = l.take 2 := by rw [← hS, str_toList]
  rw [hS] at hcv
  have y1 : (S.toList == [27, 91]) = false := by rw [tS, ht]; rfl
  have y2 : (S.toList == [27, 79]) = false := by rw [tS, ht]; rfl
  have y3 : (S.toList == [27]) = true := by rw [tS, ht]; rfl
  have HC := hidK (fun j => hC (W.drewN j) _ (HD.out j))
  have e1 : ((b.toNat : Int) == 91) = false := by
    simp only [beq_eq_false_iff_ne, ne_eq]
    exact fun e => hb1 (UInt8.toNat_inj.1 (by have : (91 : UInt8).toNat = 91 := rfl; omega))
  have e2 : ((b.toNat : Int) == 79) = false := by
    simp only [beq_eq_false_iff_ne, ne_eq]
    exact fun e => hb2 (UInt8.toNat_inj.1 (by have : (79 : UInt8).toNat = 79 := rfl; omega))
  obtain ⟨bn, hbn⟩ : ∃ bn, b.toNat = bn := ⟨_, rfl⟩
  rw [hbn] at HC e1 e2 ⊢
  clear h hd hn hk hS tS ht hne hC hnc hbn hb1 hb2
  go_enter Tryd.func18, Tryd.ntmps18
  go_wp2_with fail
  go_quiet (fail)
  rename_i nq
  clear hcv c0 k0 k1 f0 f1
  go_wp2_with fail
  refine (HC.out nq).mono ?_
  rintro e w5 ⟨rfl, ⟨v5, hd5⟩, hf5⟩
  have hz5 : w5.heap[Z]? = some (.cells #[.int .i64 0, .int .i64 0] 36 (0, 0)) := hf5 _ _ _ _ (HZD.out nq) (by decide) HdZ.out
  have HZ5 := hidK hz5
  have HD5 := hidK hd5
  have HF5 := hidK ((HFW.out nq).trans hf5)
  have z0 : w5.cell? ⟨Z, 0, none⟩ = some (.int .i64 0) := cell_at hz5 0
  have z1 : w5.cell? ⟨Z, 1, none⟩ = some (.int .i64 0) := cell_at hz5 1
  have z2 : w5.frozen? ⟨Z, 0, none⟩ = false := free_at hz5 0
  have z3 : w5.frozen? ⟨Z, 1, none⟩ = false := free_at hz5 1
  clear hz5 hd5 hf5
  go_wp2_with fail
  refine dc_end rfl rfl HZ5.out (Nat.le_trans HBw.out HW.out) HD5.out HF5.out HW.out rfl rfl ?_
  intro X hX hX2
  exact ⟨rfl, ⟨_, hX⟩, hX2⟩
set_option maxHeartbeats 4000000 in
theorem take_none {B d : Nat} {w0 w : World} {v : Value} (h : Dc B d w0 w v []) (b : UInt8) (hb27 : b ≠ 27) {st : St} (hC : ∀ W v1, Dc B d w0 W v1 [] → Calls Tryd.prog 27 #[.pointer (some ⟨d, 0, none⟩), .int .u8 b.toNat] W (Tk B d w0 W st)) : Calls Tryd.prog 18 #[.pointer (some ⟨d, 0, none⟩), .int .u8 b.toNat] w (Tk B d w0 w st) := by
  obtain ⟨W, Z, hW, hZ, HZ, HW, k0, k1, f0, f1⟩ := key_new w
  have HBw : Hid (B ≤ w.heap.size) := h.bw
  have hd := h.more HZ.out.below
  have HFW : Hid (∀ j, Ft d w (W.drewN j)) := fun j => (Ft.of HZ.out.below).trans (Ft.of (below_drewN W j))
  have HZD : Hid (∀ j, (W.drewN j).heap[Z]? = some (.cells #[.int .i64 0, .int .i64 0] 36 (0, 0))) := fun j => HZ.out.key
  have HdZ : Hid (Z ≠ d) := by have := lt_block h.blk; show _ ≠ _; omega
  have c0 := hd.cell
  have HD := hidK (fun j => hd.more (below_drewN W j))
  have HC := hidK (fun j => hC (W.drewN j) _ (HD.out j))
  have e1 : ((b.toNat : Int) == 27) = false := by
    simp only [beq_eq_false_iff_ne, ne_eq]
    exact fun e => hb27 (UInt8.toNat_inj.1 (by have : (27 : UInt8).toNat = 27 := rfl; omega))
  obtain ⟨bn, hbn⟩ : ∃ bn, b.toNat = bn := ⟨_, rfl⟩
  rw [hbn] at HC e1 ⊢
  rcases hd.own.2 with ⟨rfl, h0⟩ | ⟨g, cap, cur, rfl, hb, hg, h1, h2, h3, h4⟩
  · have hcv : ∀ j, (convert 39 9 (.slice none 0 0)).run Tryd.prog (W.drewN j) = .ok (.string ⟨#[]⟩) (W.drewN j) := fun j => by rw [run_convert_bytes_string (W.drewN j) 39 9 5 none 0 0 underBy Tryd.underlying5 Tryd.underlying9]; rfl
    have hmin : min (0 : Int) 2 = 0 := by decide
    clear h hd h0 hC hbn hb27
    go_enter Tryd.func18, Tryd.ntmps18
    go_wp2_with fail
    go_quiet (fail)
    rename_i nq
    clear hcv c0 k0 k1 f0 f1
    go_wp2_with fail
    refine (HC.out nq).mono ?_
    rintro e w5 ⟨rfl, ⟨v5, hd5⟩, hf5⟩
    have hz5 : w5.heap[Z]? = some (.cells #[.int .i64 0, .int .i64 0] 36 (0, 0)) := hf5 _ _ _ _ (HZD.out nq) (by decide) HdZ.out
    have HZ5 := hidK hz5
    have HD5 := hidK hd5
    have HF5 := hidK ((HFW.out nq).trans hf5)
    have z0 : w5.cell? ⟨Z, 0, none⟩ = some (.int .i64 0) := cell_at hz5 0
    have z1 : w5.cell? ⟨Z, 1, none⟩ = some (.int .i64 0) := cell_at hz5 1
    have z2 : w5.frozen? ⟨Z, 0, none⟩ = false := free_at hz5 0
    have z3 : w5.frozen? ⟨Z, 1, none⟩ = false := free_at hz5 1
    clear hz5 hd5 hf5
    go_wp2_with fail
    refine dc_end rfl rfl HZ5.out (Nat.le_trans HBw.out HW.out) HD5.out HF5.out HW.out rfl rfl ?_
    intro X hX hX2
    exact ⟨rfl, ⟨_, hX⟩, hX2⟩
  · have hcv : ∀ j, (convert 39 9 (.slice (some ⟨g, 0, none⟩) 0 cap)).run Tryd.prog (W.drewN j) = .ok (.string ⟨#[]⟩) (W.drewN j) := fun j => take_text hd rfl 0 rfl j
    have hmin : min (0 : Int) 2 = 0 := by decide
    simp only [List.length_nil] at c0
    clear h hd hb hg h1 h2 h3 h4 hC hbn hb27
    go_enter Tryd.func18, Tryd.ntmps18
    go_wp2_with fail
    go_quiet (fail)
    rename_i nq
    clear hcv c0 k0 k1 f0 f1
    go_wp2_with fail
    refine (HC.out nq).mono ?_
    rintro e w5 ⟨rfl, ⟨v5, hd5⟩, hf5⟩
    have hz5 : w5.heap[Z]? = some (.cells #[.int .i64 0, .int .i64 0] 36 (0, 0)) := hf5 _ _ _ _ (HZD.out nq) (by decide) HdZ.out
    have HZ5 := hidK hz5
    have HD5 := hidK hd5
    have HF5 := hidK ((HFW.out nq).trans hf5)
    have z0 : w5.cell? ⟨Z, 0, none⟩ = some (.int .i64 0) := cell_at hz5 0
    have z1 : w5.cell? ⟨Z, 1, none⟩ = some (.int .i64 0) := cell_at hz5 1
    have z2 : w5.frozen? ⟨Z, 0, none⟩ = false := free_at hz5 0
    have z3 : w5.frozen? ⟨Z, 1, none⟩ = false := free_at hz5 1
    clear hz5 hd5 hf5
    go_wp2_with fail
    refine dc_end rfl rfl HZ5.out (Nat.le_trans HBw.out HW.out) HD5.out HF5.out HW.out rfl rfl ?_
    intro X hX hX2
    exact ⟨rfl, ⟨_, hX⟩, hX2⟩
set_option maxHeartbeats 4000000 in
theorem take_e {B d : Nat} {w0 w : World} {v : Value} (h : Dc B d w0 w v []) (b : UInt8) (hb27 : b = 27) {st : St} (hst : st = ([27], (0, 0))) : Calls Tryd.prog 18 #[.pointer (some ⟨d, 0, none⟩), .int .u8 b.toNat] w (Tk B d w0 w st) := by
  obtain ⟨W, Z, hW, hZ, HZ, HW, k0, k1, f0, f1⟩ := key_new w
  have HBw : Hid (B ≤ w.heap.size) := h.bw
  have hd := h.more HZ.out.below
  have HFW : Hid (∀ j, Ft d w (W.drewN j)) := fun j => (Ft.of HZ.out.below).trans (Ft.of (below_drewN W j))
  have HZD : Hid (∀ j, (W.drewN j).heap[Z]? = some (.cells #[.int .i64 0, .int .i64 0] 36 (0, 0))) := fun j => HZ.out.key
  have HdZ : Hid (Z ≠ d) := by have := lt_block h.blk; show _ ≠ _; omega
  have c0 := hd.cell
  have HD := hidK (fun j => hd.more (below_drewN W j))
  have HC : Hid (∀ j, Calls Tryd.prog 26 #[.pointer (some ⟨d, 0, none⟩), .int .u8 27] (W.drewN j) fun r w' => r = .returned (.agg #[.int .i64 0, .int .i64 0]) ∧ (∃ v', Dc B d w0 w' v' st.1) ∧ Ft d (W.drewN j) w') := fun j => by
    rw [hst]
    exact hold_any (HD.out j) (by simp) 27
  have HST : Hid (st.2 = (0, 0)) := by show _ = _; rw [hst]
  subst hb27
  have e27 : ((27 : UInt8).toNat : Int) = 27 := by decide
  rw [e27]
  rcases hd.own.2 with ⟨rfl, h0⟩ | ⟨g, cap, cur, rfl, hb, hg, h1, h2, h3, h4⟩
  · have hcv : ∀ j, (convert 39 9 (.slice none 0 0)).run Tryd.prog (W.drewN j) = .ok (.string ⟨#[]⟩) (W.drewN j) := fun j => by rw [run_convert_bytes_string (W.drewN j) 39 9 5 none 0 0 underBy Tryd.underlying5 Tryd.underlying9]; rfl
    have hmin : min (0 : Int) 2 = 0 := by decide
    clear h hd h0 hst e27
    go_enter Tryd.func18, Tryd.ntmps18
    go_wp2_with fail
    go_quiet (fail)
    rename_i nq
    clear hcv c0 k0 k1 f0 f1
    go_wp2_with fail
    refine (HC.out nq).mono ?_
    rintro e w5 ⟨rfl, ⟨v5, hd5⟩, hf5⟩
    have hz5 : w5.heap[Z]? = some (.cells #[.int .i64 0, .int .i64 0] 36 (0, 0)) := hf5 _ _ _ _ (HZD.out nq) (by decide) HdZ.out
    have HZ5 := hidK hz5
    have HD5 := hidK hd5
    have HF5 := hidK ((HFW.out nq).trans hf5)
    have z0 : w5.cell? ⟨Z, 0, none⟩ = some (.int .i64 0) := cell_at hz5 0
    have z1 : w5.cell? ⟨Z, 1, none⟩ = some (.int .i64 0) := cell_at hz5 1
    have z2 : w5.frozen? ⟨Z, 0, none⟩ = false := free_at hz5 0
    have z3 : w5.frozen? ⟨Z, 1, none⟩ = false := free_at hz5 1
    clear hz5 hd5 hf5
    go_wp2_with fail
    refine dc_end rfl rfl HZ5.out (Nat.le_trans HBw.out HW.out) HD5.out HF5.out HW.out rfl rfl ?_
    intro X hX hX2
    exact ⟨by rw [HST.out], ⟨_, hX⟩, hX2⟩
  · have hcv : ∀ j, (convert 39 9 (.slice (some ⟨g, 0, none⟩) 0 cap)).run Tryd.prog (W.drewN j) = .ok (.string ⟨#[]⟩) (W.drewN j) := fun j => take_text hd rfl 0 rfl j
    have hmin : min (0 : Int) 2 = 0 := by decide
    simp only [List.length_nil] at c0
    clear h hd hb hg h1 h2 h3 h4 hst e27
    go_enter Tryd.func18, Tryd.ntmps18
    go_wp2_with fail
    go_quiet (fail)
    rename_i nq
    clear hcv c0 k0 k1 f0 f1
    go_wp2_with fail
    refine (HC.out nq).mono ?_
    rintro e w5 ⟨rfl, ⟨v5, hd5⟩, hf5⟩
    have hz5 : w5.heap[Z]? = some (.cells #[.int .i64 0, .int .i64 0] 36 (0, 0)) := hf5 _ _ _ _ (HZD.out nq) (by decide) HdZ.out
    have HZ5 := hidK hz5
    have HD5 := hidK hd5
    have HF5 := hidK ((HFW.out nq).trans hf5)
    have z0 : w5.cell? ⟨Z, 0, none⟩ = some (.int .i64 0) := cell_at hz5 0
    have z1 : w5.cell? ⟨Z, 1, none⟩ = some (.int .i64 0) := cell_at hz5 1
    have z2 : w5.frozen? ⟨Z, 0, none⟩ = false := free_at hz5 0
    have z3 : w5.frozen? ⟨Z, 1, none⟩ = false := free_at hz5 1
    clear hz5 hd5 hf5
    go_wp2_with fail
    refine dc_end rfl rfl HZ5.out (Nat.le_trans HBw.out HW.out) HD5.out HF5.out HW.out rfl rfl ?_
    intro X hX hX2
    exact ⟨by rw [HST.out], ⟨_, hX⟩, hX2⟩
end Go.Proofs.YtnehkokppobncaaDoor

namespace Go.Proofs.YtnehkokppobncaaDoor
open Go.RowKit
set_option linter.unusedVariables false
set_option maxRecDepth 100000

theorem full_one (b : UInt8) (h : ¬ b.toNat < 128) : fullB [b] = true → (dec [b]).2 = 1 := by
  intro _
  have h0 : (str [b]).size = 1 := rfl
  unfold dec
  rw [if_neg (by rw [h0]; decide), Lib.decode_at]
  simp only [h0, Lib.decodeN]
  rw [if_neg (by simpa [str, ByteArray.get!] using h)]
  split
  · rename_i q; omega
  · split
    · rename_i q; omega
    · split
      · rename_i q; omega
      · rfl
theorem behind_one {b : UInt8} (h : b ≠ 27) : behindF [b] = ([b], 0) := behind_not h []
/-- With nothing held. -/
theorem take0_any {B d : Nat} {w0 w : World} {v : Value} (h : Dc B d w0 w v []) (hT : Tabs w0) (b : UInt8) : Calls Tryd.prog 18 #[.pointer (some ⟨d, 0, none⟩), .int .u8 b.toNat] w (Tk B d w0 w (take0 b)) := by
  by_cases h27 : b = 27
  · exact take_e h b h27 (by subst h27; rfl)
  · refine take_none h b h27 fun W v1 hd => ?_
    by_cases hb : b.toNat < 128
    · have e : take0 b = ([], ((loneF b.toNat).1, (loneF b.toNat).2 + (behindF []).2)) := by
        unfold take0
        rw [if_neg h27, if_pos hb]
        show _ = ([], ((loneF b.toNat).1, (loneF b.toNat).2 + 0))
        rw [Int.add_zero]
      rw [e]
      exact takeFirst_low hd b hb
    · refine takeFirst_high hd b hb fun W2 v2 hd2 => ?_
      have hbe : behindF ([] ++ [b]) = ([b], 0) := behind_one h27
      have e : take0 b = chF [] b := by
        unfold take0 chF
        rw [if_neg h27, if_neg hb]
        simp only [hbe]
        cases hf : fullB [b] with
        | false => rfl
        | true =>
          have h1 := full_one b hb hf
          simp [h1]
      rw [e]
      refine takeCharacter_of hd2 hT (by simp) b (by rw [hbe]; simp) ?_
      rw [hbe]
      intro hf hlt
      have h1 := full_one b hb hf
      rw [h1] at hlt
      simp at hlt
set_option maxHeartbeats 4000000 in
theorem again_any {B d : Nat} {w0 w : World} {v : Value} {l : List UInt8} (h : Dc B d w0 w v l) (hT : Tabs w0) (b : UInt8) : Calls Tryd.prog 37 #[.pointer (some ⟨d, 0, none⟩), .int .u8 b.toNat] w (Tk B d w0 w (take0 b)) := by
  obtain ⟨W, Z, hW, hZ, HZ, HW, k0, k1, f0, f1⟩ := key_new w
  have HBw : Hid (B ≤ w.heap.size) := h.bw
  have hd := h.more HZ.out.below
  have HFW : Hid (Ft d w W) := Ft.of HZ.out.below
  have HdZ : Hid (Z ≠ d) := by have := lt_block h.blk; show _ ≠ _; omega
  have HDr := hidK (drop_any hd)
  obtain ⟨st, hst⟩ : ∃ st, take0 b = st := ⟨_, rfl⟩
  have HTk : Hid (∀ X v', Dc B d w0 X v' [] → Calls Tryd.prog 18 #[.pointer (some ⟨d, 0, none⟩), .int .u8 b.toNat] X (Tk B d w0 X st)) := fun X v' hX => by rw [← hst]; exact take0_any hX hT b
  obtain ⟨n, hn⟩ : ∃ n, b.toNat = n := ⟨_, rfl⟩
  rw [hn] at HTk
  rw [hn, hst]
  clear h hd hn hst hT
  go_enter Tryd.func37, Tryd.ntmps37
  go_wp2_with fail
  refine HDr.out.mono ?_
  rintro e w4 ⟨rfl, ⟨v4, hd4⟩, hf4⟩
  have HT4 := hidK (HTk.out _ _ hd4)
  have HF4 := hidK hf4
  clear hd4 hf4 HTk
  go_wp2_with fail
  refine HT4.out.mono ?_
  rintro e w5 ⟨rfl, ⟨v5, hd5⟩, hf5⟩
  have hz5 : w5.heap[Z]? = some (.cells #[.int .i64 0, .int .i64 0] 36 (0, 0)) := hf5 _ _ _ _ (HF4.out _ _ _ _ HZ.out.key (by decide) HdZ.out) (by decide) HdZ.out
  have HZ5 := hidK hz5
  have HD5 := hidK hd5
  have HF5 := hidK ((HFW.out.trans HF4.out).trans hf5)
  have z0 : w5.cell? ⟨Z, 0, none⟩ = some (.int .i64 0) := cell_at hz5 0
  have z1 : w5.cell? ⟨Z, 1, none⟩ = some (.int .i64 0) := cell_at hz5 1
  have z2 : w5.frozen? ⟨Z, 0, none⟩ = false := free_at hz5 0
  have z3 : w5.frozen? ⟨Z, 1, none⟩ = false := free_at hz5 1
  clear hz5 hd5 hf5 k0 k1 f0 f1
  go_wp2_with fail
  refine dc_end rfl rfl HZ5.out (Nat.le_trans HBw.out HW.out) HD5.out HF5.out HW.out rfl rfl ?_
  intro X hX hX2
  exact ⟨rfl, ⟨_, hX⟩, hX2⟩
theorem takeCharacter_any {B d : Nat} {w0 w : World} {v : Value} {l : List UInt8} (h : Dc B d w0 w v l) (hT : Tabs w0) (hl : l.length ≤ 999) (b : UInt8) (hne : (behindF (l ++ [b])).1 ≠ []) :
    Calls Tryd.prog 28 #[.pointer (some ⟨d, 0, none⟩), .int .u8 b.toNat] w (Tk B d w0 w (chF l b)) :=
  takeCharacter_of h hT hl b hne fun _ _ W v1 hd => again_any hd hT b
/-- Behind ESC and [. -/
def seqT (l : List UInt8) (b : UInt8) : St :=
  if b.toNat < 32 ∨ 127 ≤ b.toNat then take0 b
  else if b.toNat < 64 then (if l.length + 1 = 256 then ([], (0, 0)) else (l ++ [b], (0, 0)))
  else ([], inSeqF (l.drop 2) [b])
set_option maxHeartbeats 4000000 in
theorem seq_again {B d : Nat} {w0 w : World} {v : Value} {l : List UInt8} (h : Dc B d w0 w v l) (hT : Tabs w0) (b : UInt8) (hb : b.toNat < 32 ∨ 127 ≤ b.toNat) : Calls Tryd.prog 24 #[.pointer (some ⟨d, 0, none⟩), .int .u8 b.toNat] w (Tk B d w0 w (take0 b)) := by
  obtain ⟨W, Z, hW, hZ, HZ, HW, k0, k1, f0, f1⟩ := key_new w
  have HBw : Hid (B ≤ w.heap.size) := h.bw
  have hd := h.more HZ.out.below
  have HFW : Hid (Ft d w W) := Ft.of HZ.out.below
  have HdZ : Hid (Z ≠ d) := by have := lt_block h.blk; show _ ≠ _; omega
  obtain ⟨st, hst⟩ : ∃ st, take0 b = st := ⟨_, rfl⟩
  have HC := hidK (again_any hd hT b)
  obtain ⟨n, hn⟩ : ∃ n, b.toNat = n := ⟨_, rfl⟩
  rw [hn, hst] at HC
  rw [hn] at hb
  rw [hn, hst]
  clear h hd hn hst hT
  rcases (by omega : (n : Int) < 32 ∨ (¬ (n : Int) < 32 ∧ (127 : Int) ≤ (n : Int))) with i1 | ⟨i1, i2⟩ <;>
  · clear hb
    go_enter Tryd.func24, Tryd.ntmps24
    go_wp2_with fail
    refine HC.out.mono ?_
    rintro e w5 ⟨rfl, ⟨v5, hd5⟩, hf5⟩
    have hz5 : w5.heap[Z]? = some (.cells #[.int .i64 0, .int .i64 0] 36 (0, 0)) := hf5 _ _ _ _ HZ.out.key (by decide) HdZ.out
    have HZ5 := hidK hz5
    have HD5 := hidK hd5
    have HF5 := hidK (HFW.out.trans hf5)
    have z0 : w5.cell? ⟨Z, 0, none⟩ = some (.int .i64 0) := cell_at hz5 0
    have z1 : w5.cell? ⟨Z, 1, none⟩ = some (.int .i64 0) := cell_at hz5 1
    have z2 : w5.frozen? ⟨Z, 0, none⟩ = false := free_at hz5 0
    have z3 : w5.frozen? ⟨Z, 1, none⟩ = false := free_at hz5 1
    clear hz5 hd5 hf5 k0 k1 f0 f1
    go_wp2_with fail
    refine dc_end rfl rfl HZ5.out (Nat.le_trans HBw.out HW.out) HD5.out HF5.out HW.out rfl rfl ?_
    intro X hX hX2
    exact ⟨rfl, ⟨_, hX⟩, hX2⟩
theorem Dc.len {B d : Nat} {w0 w : World} {v : Value} {l : List UInt8} (h : Dc B d w0 w v l) : ∃ a c, v = .slice a l.length c ∧ (l ≠ [] → ∃ g, a = some ⟨g, 0, none⟩ ∧ l.length ≤ c) := by
  rcases h.own.2 with ⟨rfl, h0⟩ | ⟨g, cap, cur, rfl, hb, hg, h1, h2, h3, h4⟩
  · have : l = [] := List.length_eq_zero_iff.1 h0
    subst this
    exact ⟨_, _, rfl, fun h => absurd rfl h⟩
  · exact ⟨_, _, rfl, fun _ => ⟨g, rfl, h1⟩⟩
set_option maxHeartbeats 4000000 in
theorem seq_hold {B d : Nat} {w0 w : World} {v : Value} {l : List UInt8} (h : Dc B d w0 w v l) (hl : l.length ≤ 999) (b : UInt8) (h32 : 32 ≤ b.toNat) (h64 : b.toNat < 64) {st : St} (hst : (if l.length + 1 = 256 then ([], (0, 0)) else (l ++ [b], (0, 0))) = st) : Calls Tryd.prog 24 #[.pointer (some ⟨d, 0, none⟩), .int .u8 b.toNat] w (Tk B d w0 w st) := by
  obtain ⟨W, Z, hW, hZ, HZ, HW, k0, k1, f0, f1⟩ := key_new w
  have HBw : Hid (B ≤ w.heap.size) := h.bw
  have hd := h.more HZ.out.below
  have HFW : Hid (Ft d w W) := Ft.of HZ.out.below
  have HdZ : Hid (Z ≠ d) := by have := lt_block h.blk; show _ ≠ _; omega
  have HHo := hidK (hold_any hd (by omega) b)
  obtain ⟨n, hn⟩ : ∃ n, b.toNat = n := ⟨_, rfl⟩
  obtain ⟨l', hl'⟩ : ∃ l', l ++ [b] = l' := ⟨_, rfl⟩
  obtain ⟨N, hN⟩ : ∃ N, l'.length = N := ⟨_, rfl⟩
  have hN2 : N = l.length + 1 := by rw [← hN, ← hl']; simp
  rw [hl'] at HHo hst
  rw [← hN2] at hst
  rw [hn] at HHo h32 h64 ⊢
  have i1 : ¬ (n : Int) < 32 := by omega
  have i2 : ¬ (127 : Int) ≤ (n : Int) := by omega
  have i3 : (n : Int) < 64 := by omega
  have HN := hidK hN
  clear h hd hn h32 h64 hN2 hl' hl hN
  go_enter Tryd.func24, Tryd.ntmps24
  go_wp2_with fail
  refine HHo.out.mono ?_
  rintro e w4 ⟨rfl, ⟨v4, hd4⟩, hf4⟩
  obtain ⟨a4, c4, e4, _⟩ := hd4.len
  have HD4 := hidK hd4
  have HDr := hidK (drop_any hd4)
  have c4 := hd4.cell
  rw [e4, HN.out] at c4
  have hz4 : w4.heap[Z]? = some (.cells #[.int .i64 0, .int .i64 0] 36 (0, 0)) := hf4 _ _ _ _ HZ.out.key (by decide) HdZ.out
  have HZ4 := hidK hz4
  have HF4 := hidK (HFW.out.trans hf4)
  have z0 : w4.cell? ⟨Z, 0, none⟩ = some (.int .i64 0) := cell_at hz4 0
  have z1 : w4.cell? ⟨Z, 1, none⟩ = some (.int .i64 0) := cell_at hz4 1
  have z2 : w4.frozen? ⟨Z, 0, none⟩ = false := free_at hz4 0
  have z3 : w4.frozen? ⟨Z, 1, none⟩ = false := free_at hz4 1
  clear hz4 hd4 hf4 k0 k1 f0 f1 e4
  by_cases h256 : N = 256
  · have i4 : ((N : Int) == 256) = true := by simp; omega
    have i5 : (N : Int) = 256 := by omega
    have HS := hidK hst
    rw [if_pos h256] at HS
    clear hst h256
    go_wp2_with fail
    refine HDr.out.mono ?_
    rintro e w5 ⟨rfl, ⟨v5, hd5⟩, hf5⟩
    have hz5 : w5.heap[Z]? = some (.cells #[.int .i64 0, .int .i64 0] 36 (0, 0)) := hf5 _ _ _ _ HZ4.out (by decide) HdZ.out
    have HZ5 := hidK hz5
    have HD5 := hidK hd5
    have HF5 := hidK (HF4.out.trans hf5)
    have y0 : w5.cell? ⟨Z, 0, none⟩ = some (.int .i64 0) := cell_at hz5 0
    have y1 : w5.cell? ⟨Z, 1, none⟩ = some (.int .i64 0) := cell_at hz5 1
    have y2 : w5.frozen? ⟨Z, 0, none⟩ = false := free_at hz5 0
    have y3 : w5.frozen? ⟨Z, 1, none⟩ = false := free_at hz5 1
    clear hz5 hd5 hf5 z0 z1 z2 z3 c4
    go_wp2_with fail
    refine dc_end rfl rfl HZ5.out (Nat.le_trans HBw.out HW.out) HD5.out HF5.out HW.out rfl rfl ?_
    intro X hX hX2
    rw [← HS.out]
    exact ⟨rfl, ⟨_, hX⟩, hX2⟩
  · have i4 : ((N : Int) == 256) = false := by simp; omega
    have HS := hidK hst
    rw [if_neg h256] at HS
    clear hst h256
    go_wp2_with fail
    refine dc_end rfl rfl HZ4.out (Nat.le_trans HBw.out HW.out) HD4.out HF4.out HW.out rfl rfl ?_
    intro X hX hX2
    rw [← HS.out]
    exact ⟨rfl, ⟨_, hX⟩, hX2⟩
end Go.Proofs.YtnehkokppobncaaDoor

namespace Go.Proofs.YtnehkokppobncaaDoor
open Go.RowKit
set_option linter.unusedVariables false
set_option maxRecDepth 100000

theorem tail_text {B d : Nat} {w0 W : World} {g n cap : Nat} {l : List UInt8} (hd : Dc B d w0 W (.slice (some ⟨g, 0, none⟩) n cap) l) (hn : l.length = n) (h2 : 2 ≤ n) :
    (convert 39 9 (.slice (some ⟨g, 2, none⟩) (n - 2) (cap - 2))).run Tryd.prog W = .ok (.string (str (l.drop 2))) W := by
  have hlen : (l.drop 2).length = n - 2 := by rw [List.length_drop, hn]
  rw [← hlen]
  refine run_convert_bytes_back W 39 9 5 ⟨g, 2, none⟩ (cap - 2) (l.drop 2) underBy Tryd.underlying5 Tryd.underlying9 fun i hi => ?_
  have hi2 : 2 + i < l.length := by rw [List.length_drop] at hi; omega
  have := World.ownsRow.cells hd.own (g := g) rfl (2 + i) (bv l[2 + i]) (by rw [List.getElem?_map, List.getElem?_eq_getElem hi2]; rfl)
  rw [List.getElem_drop]
  rw [addr_add, Nat.zero_add] at this
  rw [addr_add]
  exact this
set_option maxHeartbeats 4000000 in
theorem seq_end {B d : Nat} {w0 w : World} {v : Value} {l : List UInt8} (h : Dc B d w0 w v l) (hT : Tabs w0) (hl : l.length ≤ 999) (h2 : 2 ≤ l.length) (b : UInt8) (h64 : 64 ≤ b.toNat) (h127 : b.toNat < 127) : Calls Tryd.prog 24 #[.pointer (some ⟨d, 0, none⟩), .int .u8 b.toNat] w (Tk B d w0 w ([], inSeqF (l.drop 2) [b])) := by
  obtain ⟨W, Z, hW, hZ, HZ, HW, k0, k1, f0, f1⟩ := key_new w
  have HBw : Hid (B ≤ w.heap.size) := h.bw
  have hd := h.more HZ.out.below
  have HFW : Hid (Ft d w W) := Ft.of HZ.out.below
  have HdZ : Hid (Z ≠ d) := by have := lt_block h.blk; show _ ≠ _; omega
  have HIn := hidK (inSeq_any (l.drop 2) [b] (by rw [List.length_drop]; omega) (hd.tabs hT))
  obtain ⟨x, hx⟩ : ∃ x, (inSeqF (l.drop 2) [b]).1 = x := ⟨_, rfl⟩
  obtain ⟨y, hy⟩ : ∃ y, (inSeqF (l.drop 2) [b]).2 = y := ⟨_, rfl⟩
  have hxy : inSeqF (l.drop 2) [b] = (x, y) := by rw [← hx, ← hy]
  rw [hx, hy] at HIn
  rw [hxy]
  have hEn : Utf8.encode (b.toNat : Int) = str [b] := by
    rw [enc_eq (by omega)]
    unfold Lib.encodeRune
    rw [Lib.encodeRuneZ_one (by omega) (by omega)]
    simp
  obtain ⟨E, hE⟩ : ∃ E, str [b] = E := ⟨_, rfl⟩
  obtain ⟨S, hS⟩ : ∃ S, str (l.drop 2) = S := ⟨_, rfl⟩
  rw [hE, hS] at HIn
  rw [hE] at hEn
  obtain ⟨bn, hbn⟩ : ∃ bn, b.toNat = bn := ⟨_, rfl⟩
  rw [hbn] at hEn h64 h127 ⊢
  have hw : IntKind.i32.wrap (bn : Int) = (bn : Int) := by
    have := IntKind.wrap_i32 (bn : Int)
    omega
  have i1 : ¬ (bn : Int) < 32 := by omega
  have i2 : ¬ (127 : Int) ≤ (bn : Int) := by omega
  have i3 : ¬ (bn : Int) < 64 := by omega
  have c0 := hd.cell
  obtain ⟨n, hn⟩ : ∃ n, l.length = n := ⟨_, rfl⟩
  obtain ⟨a, cap, rfl, hg⟩ := hd.len
  obtain ⟨g, rfl, hnc⟩ := hg (fun e => by rw [e] at h2; simp at h2)
  rw [hn] at c0 hd hnc h2
  have hcv := tail_text hd hn h2
  rw [hS] at hcv
  have HD := hidK hd
  have hnd : W.heap.size ≠ d := by have := lt_block hd.blk; omega
  have HnD := hidK hnd
  have hle2 : (2 : Int) ≤ (n : Int) := by omega
  have hnc2 : (n : Int) ≤ (cap : Int) := by omega
  have HS0 : Hid (cap = 2 → n = 2 ∧ S = ⟨#[]⟩) := fun e => ⟨by omega, by rw [← hS, List.drop_of_length_le (by omega)]; rfl⟩
  clear h hd hn hl hx hy hxy hE hS hbn h64 h127 hg hT hnd h2 hnc
  have HGo : Hid (∀ (w1 : World), Below W.heap.size W w1 → ∀ Q, Q = w1.heap.size → ∀ V, w1.alloc (.cells #[.int .i64 x, .int .i64 y] 36) = V → Dc B d w0 V (.slice (some ⟨g, 0, none⟩) n cap) l ∧ Ft d w V ∧ V.heap[Z]? = some (.cells #[.int .i64 0, .int .i64 0] 36 (0, 0)) ∧ V.heap[Q]? = some (.cells #[.int .i64 x, .int .i64 y] 36 (0, 0)) ∧ Q ≠ d) := by
    rintro w1 hb1 Q rfl V rfl
    have hb2 : Below W.heap.size W (w1.alloc (.cells #[.int .i64 x, .int .i64 y] 36)) := below_step hb1 ((Below.refl _ _).alloc (Nat.le_refl _) _)
    refine ⟨HD.out.more hb2, HFW.out.trans (Ft.of hb2), (hb2.block Z (lt_block HZ.out.key)).trans HZ.out.key, heap_alloc_new w1 _, ?_⟩
    have h1 := lt_block HD.out.blk
    have h3 := hb1.size
    omega
  by_cases hc2 : cap = 2
  · obtain ⟨e1, e2⟩ := HS0.out hc2
    subst e1 e2 hc2
    have hcv0 : (convert 39 9 (.slice (some ⟨g, 0, none⟩) 0 0)).run Tryd.prog W = .ok (.string ⟨#[]⟩) W := by rw [run_convert_bytes_string W 39 9 5 (some ⟨g, 0, none⟩) 0 0 underBy Tryd.underlying5 Tryd.underlying9]; rfl
    clear HS0 hcv
    go_enter Tryd.func24, Tryd.ntmps24
    go_wp2_with fail
    refine HIn.out.mono ?_
    rintro e w1 ⟨rfl, hb1⟩
    obtain ⟨V, hV⟩ : ∃ V, w1.alloc (.cells #[.int .i64 x, .int .i64 y] 36) = V := ⟨_, rfl⟩
    obtain ⟨Q, hQ⟩ : ∃ Q, w1.heap.size = Q := ⟨_, rfl⟩
    obtain ⟨g1, g2, g3, g4, g5⟩ := HGo.out w1 hb1 Q hQ.symm V hV
    have HDr := hidK (drop_any g1)
    have HG := hidK (And.intro g2 (And.intro g3 (And.intro g4 g5)))
    clear g1 g2 g3 g4 g5 hb1 c0 k0 k1 f0 f1 hcv0
    go_wp2_with fail
    refine HDr.out.mono ?_
    rintro e w5 ⟨rfl, ⟨v5, hd5⟩, hf5⟩
    have hz5 : w5.heap[Z]? = some (.cells #[.int .i64 0, .int .i64 0] 36 (0, 0)) := hf5 _ _ _ _ HG.out.2.1 (by decide) HdZ.out
    have hq5 : w5.heap[Q]? = some (.cells #[.int .i64 x, .int .i64 y] 36 (0, 0)) := hf5 _ _ _ _ HG.out.2.2.1 (by decide) HG.out.2.2.2
    have HZ5 := hidK hz5
    have HD5 := hidK hd5
    have HF5 := hidK (HG.out.1.trans hf5)
    have q0 : w5.cell? ⟨Q, 0, none⟩ = some (.int .i64 x) := cell_at hq5 0
    have q1 : w5.cell? ⟨Q, 1, none⟩ = some (.int .i64 y) := cell_at hq5 1
    have z0 : w5.cell? ⟨Z, 0, none⟩ = some (.int .i64 0) := cell_at hz5 0
    have z1 : w5.cell? ⟨Z, 1, none⟩ = some (.int .i64 0) := cell_at hz5 1
    have z2 : w5.frozen? ⟨Z, 0, none⟩ = false := free_at hz5 0
    have z3 : w5.frozen? ⟨Z, 1, none⟩ = false := free_at hz5 1
    clear hz5 hd5 hf5 hq5
    go_wp2_with fail
    refine dc_end rfl rfl HZ5.out (Nat.le_trans HBw.out HW.out) HD5.out HF5.out HW.out rfl rfl ?_
    intro X hX hX2
    exact ⟨rfl, ⟨_, hX⟩, hX2⟩
  · have hz2 : ¬ (cap - 2 = 0) := by omega
    have hz3 : (2 : Int) < (cap : Int) := by omega
    clear hc2 HS0
    go_enter Tryd.func24, Tryd.ntmps24
    go_wp2_with fail
    refine HIn.out.mono ?_
    rintro e w1 ⟨rfl, hb1⟩
    obtain ⟨V, hV⟩ : ∃ V, w1.alloc (.cells #[.int .i64 x, .int .i64 y] 36) = V := ⟨_, rfl⟩
    obtain ⟨Q, hQ⟩ : ∃ Q, w1.heap.size = Q := ⟨_, rfl⟩
    obtain ⟨g1, g2, g3, g4, g5⟩ := HGo.out w1 hb1 Q hQ.symm V hV
    have HDr := hidK (drop_any g1)
    have HG := hidK (And.intro g2 (And.intro g3 (And.intro g4 g5)))
    clear g1 g2 g3 g4 g5 hb1 c0 k0 k1 f0 f1 hcv
    go_wp2_with fail
    refine HDr.out.mono ?_
    rintro e w5 ⟨rfl, ⟨v5, hd5⟩, hf5⟩
    have hz5 : w5.heap[Z]? = some (.cells #[.int .i64 0, .int .i64 0] 36 (0, 0)) := hf5 _ _ _ _ HG.out.2.1 (by decide) HdZ.out
    have hq5 : w5.heap[Q]? = some (.cells #[.int .i64 x, .int .i64 y] 36 (0, 0)) := hf5 _ _ _ _ HG.out.2.2.1 (by decide) HG.out.2.2.2
    have HZ5 := hidK hz5
    have HD5 := hidK hd5
    have HF5 := hidK (HG.out.1.trans hf5)
    have q0 : w5.cell? ⟨Q, 0, none⟩ = some (.int .i64 x) := cell_at hq5 0
    have q1 : w5.cell? ⟨Q, 1, none⟩ = some (.int .i64 y) := cell_at hq5 1
    have z0 : w5.cell? ⟨Z, 0, none⟩ = some (.int .i64 0) := cell_at hz5 0
    have z1 : w5.cell? ⟨Z, 1, none⟩ = some (.int .i64 0) := cell_at hz5 1
    have z2 : w5.frozen? ⟨Z, 0, none⟩ = false := free_at hz5 0
    have z3 : w5.frozen? ⟨Z, 1, none⟩ = false := free_at hz5 1
    clear hz5 hd5 hf5 hq5
    go_wp2_with fail
    refine dc_end rfl rfl HZ5.out (Nat.le_trans HBw.out HW.out) HD5.out HF5.out HW.out rfl rfl ?_
    intro X hX hX2
    exact ⟨rfl, ⟨_, hX⟩, hX2⟩
theorem seqT_any {B d : Nat} {w0 w : World} {v : Value} {l : List UInt8} (h : Dc B d w0 w v l) (hT : Tabs w0) (hl : l.length ≤ 999) (h2 : 2 ≤ l.length) (b : UInt8) : Calls Tryd.prog 24 #[.pointer (some ⟨d, 0, none⟩), .int .u8 b.toNat] w (Tk B d w0 w (seqT l b)) := by
  unfold seqT
  by_cases h1 : b.toNat < 32 ∨ 127 ≤ b.toNat
  · rw [if_pos h1]
    exact seq_again h hT b h1
  · rw [if_neg h1]
    by_cases h3 : b.toNat < 64
    · rw [if_pos h3]
      exact seq_hold h hl b (by omega) h3 rfl
    · rw [if_neg h3]
      exact seq_end h hT hl h2 b (by omega) (by omega)
theorem takeF_seq {l : List UInt8} (h : l.take 2 = [27, 91]) (b : UInt8) : takeF l b = seqT l b := by
  match l, h with
  | [], h => cases h
  | [a], h => simp at h
  | a :: c :: r, h =>
    obtain ⟨rfl, rfl⟩ : a = 27 ∧ c = 91 := by simpa using h
    rfl
theorem takeF_shift {l : List UInt8} (h : l.take 2 = [27, 79]) (b : UInt8) : takeF l b = ([], inShiftF (Lib.encodeRune b.toNat)) := by
  match l, h with
  | [], h => cases h
  | [a], h => simp at h
  | a :: c :: r, h =>
    obtain ⟨rfl, rfl⟩ : a = 27 ∧ c = 79 := by simpa using h
    rfl
theorem takeF_chr {l : List UInt8} (h0 : l ≠ []) (h1 : l.take 2 ≠ [27, 91]) (h2 : l.take 2 ≠ [27, 79]) (h3 : l ≠ [27]) (b : UInt8) : takeF l b = chF l b := by
  unfold takeF
  split
  · exact absurd rfl h0
  · exact absurd rfl h3
  · exact absurd rfl h1
  · exact absurd rfl h2
  · rfl
theorem behind_ne {l : List UInt8} (b : UInt8) (h : l ≠ []) : (behindF (l ++ [b])).1 ≠ [] := by
  match l, h with
  | a :: r, _ =>
    by_cases ha : a = 27
    · subst ha
      show r ++ [b] ≠ []
      simp
    · rw [List.cons_append, behind_not ha]
      simp
theorem take_any {B d : Nat} {w0 w : World} {v : Value} {l : List UInt8} (h : Dc B d w0 w v l) (hT : Tabs w0) (hl : l.length ≤ 999) (b : UInt8) : Calls Tryd.prog 18 #[.pointer (some ⟨d, 0, none⟩), .int .u8 b.toNat] w (Tk B d w0 w (takeF l b)) := by
  by_cases h0 : l = []
  · subst h0
    exact take0_any h hT b
  · by_cases h1 : l.take 2 = [27, 91]
    · rw [takeF_seq h1]
      exact take_seq h h1 b fun W v1 hd => seqT_any hd hT hl (by have := congrArg List.length h1; simp at this; omega) b
    · by_cases h2 : l.take 2 = [27, 79]
      · exact take_shift h hT h2 b (takeF_shift h2 b)
      · by_cases h3 : l = [27]
        · by_cases hb : b = 91 ∨ b = 79
          · refine take_hold h h3 b hb ?_
            subst h3
            unfold takeF
            rw [if_pos hb]
            rfl
          · refine take_meta h h3 b (fun e => hb (.inl e)) (fun e => hb (.inr e)) fun W v1 hd => ?_
            by_cases hlo : b.toNat < 128
            · have e : takeF l b = ([], ((loneF b.toNat).1, (loneF b.toNat).2 + (behindF l).2)) := by
                subst h3
                unfold takeF
                rw [if_neg hb, if_pos hlo]
                rfl
              rw [e]
              exact takeFirst_low hd b hlo
            · have e : takeF l b = chF l b := by
                subst h3
                unfold takeF
                rw [if_neg hb, if_neg hlo]
                rfl
              rw [e]
              exact takeFirst_high hd b hlo fun W2 v2 hd2 => takeCharacter_any hd2 hT hl b (behind_ne b h0)
        · rw [takeF_chr h0 h1 h2 h3]
          exact take_chr h h0 h1 h2 h3 b fun W v1 hd => takeCharacter_any hd hT hl b (behind_ne b h0)
end Go.Proofs.YtnehkokppobncaaDoor
