/-
  Keys: a byte.
-/
import Derived.Test.YtghepjjfdaecgaaDoorKTakB
import Derived.BigQuiet
import Derived.Deep.QuietTactic
namespace Go.Proofs.YtghepjjfdaecgaaDoor
open Go.RowKit
set_option linter.unusedVariables false
set_option maxRecDepth 100000

theorem take_text {B d : Nat} {w0 W : World} {g n cap : Nat} {l : List UInt8} (hd : Dc B d w0 W (.slice (some ⟨g, 0, none⟩) n cap) l) (hn : l.length = n) (k : Nat) (hk : min n 2 = k) (j : Nat) :
    (convert 52 9 (.slice (some ⟨g, 0, none⟩) k cap)).run Tryd.prog (W.drewN j) = .ok (.string (str (l.take 2))) (W.drewN j) := by
  have hlen : (l.take 2).length = k := by rw [List.length_take, hn]; omega
  rw [← hlen]
  refine run_convert_bytes_back (W.drewN j) 52 9 5 ⟨g, 0, none⟩ cap (l.take 2) underBy Tryd.underlying5 Tryd.underlying9 fun i hi => ?_
  have hi2 : i < l.length := by rw [List.length_take] at hi; omega
  have := World.ownsRow.cells hd.own (g := g) rfl i (bv l[i]) (by rw [List.getElem?_map, List.getElem?_eq_getElem hi2]; rfl)
  rw [List.getElem_take]
  exact this
set_option maxHeartbeats 4000000 in
theorem take_seq {B d : Nat} {w0 w : World} {v : Value} {l : List UInt8} (h : Dc B d w0 w v l) (ht : l.take 2 = [27, 91]) (b : UInt8) {st : St} (hC : ∀ W v1, Dc B d w0 W v1 l → Calls Tryd.prog 51 #[.pointer (some ⟨d, 0, none⟩), .int .u8 b.toNat] W (Tk B d w0 W st)) : Calls Tryd.prog 25 #[.pointer (some ⟨d, 0, none⟩), .int .u8 b.toNat] w (Tk B d w0 w st) := by
  obtain ⟨W, Z, hW, hZ, HZ, HW, k0, k1, f0, f1⟩ := key_new w
  have HBw : Hid (B ≤ w.heap.size) := h.bw
  have hd := h.more HZ.out.below
  have HFW : Hid (∀ j, Ft d w (W.drewN j)) := fun j => (Ft.of HZ.out.below).trans (Ft.of (below_drewN W j))
  have HZD : Hid (∀ j, (W.drewN j).heap[Z]? = some (.cells #[.int .i64 0, .int .i64 0] 30 (0, 0))) := fun j => HZ.out.key
  have HdZ : Hid (Z ≠ d) := by have := lt_block h.blk; show _ ≠ _; omega
  have c0 := hd.cell
  have HD := hidK (fun j => hd.more (below_drewN W j))
  have hne : l ≠ [] := fun e => by rw [e] at ht; cases ht
  obtain ⟨n, hn⟩ : ∃ n, l.length = n := ⟨_, rfl⟩
  obtain ⟨g, cap, rfl, hnc⟩ : ∃ g cap, v = .slice (some ⟨g, 0, none⟩) n cap ∧ n ≤ cap := by
    rcases hd.own.2 with ⟨_, h0⟩ | ⟨g, cap, cur, e, hb, hg, h1, h2, h3, h4⟩
    · exact absurd (List.length_eq_zero_iff.1 h0) hne
    · exact ⟨g, cap, by rw [e, hn], by rw [← hn]; exact h1⟩
  obtain ⟨k, hk⟩ : ∃ k, min n 2 = k := ⟨_, rfl⟩
  have hcv := take_text hd hn k hk
  have hmin : min (n : Int) 2 = (k : Int) := by omega
  have hkc : (k : Int) ≤ (cap : Int) := by omega
  have hkn : k ≤ cap := by omega
  obtain ⟨S, hS⟩ : ∃ S, str (l.take 2) = S := ⟨_, rfl⟩
  have tS : S.toList = l.take 2 := by rw [← hS, str_toList]
  rw [hS] at hcv
  have y1 : (S.toList == [27, 91]) = true := by rw [tS, ht]; rfl
  have HC := hidK (fun j => hC (W.drewN j) _ (HD.out j))
  obtain ⟨bn, hbn⟩ : ∃ bn, b.toNat = bn := ⟨_, rfl⟩
  rw [hbn] at HC ⊢
  clear h hd hn hk hS tS ht hne hC hnc hbn
  go_enter Tryd.func25, Tryd.ntmps25
  go_wp2_with fail
  go_quiet (fail)
  rename_i nq
  clear hcv c0 k0 k1 f0 f1
  go_wp2_with fail
  refine (HC.out nq).mono ?_
  rintro e w5 ⟨rfl, ⟨v5, hd5⟩, hf5⟩
  have hz5 : w5.heap[Z]? = some (.cells #[.int .i64 0, .int .i64 0] 30 (0, 0)) := hf5 _ _ _ _ (HZD.out nq) (by decide) HdZ.out
  have HZ5 := hidK hz5
  have HD5 := hidK hd5
  have HF5 := hidK ((HFW.out nq).trans hf5)
  have z0 : w5.cell? ⟨Z, 0, none⟩ = some (.int .i64 0) := cell_at hz5 0
  have z1 : w5.cell? ⟨Z, 1, none⟩ = some (.int .i64 0) := cell_at hz5 1
  have z2 : w5.frozen? ⟨Z, 0, none⟩ = false := free_at hz5 0
  have z3 : w5.frozen? ⟨Z, 1, none⟩ = false := free_at hz5 1
  clear hz5 hd5 hf5
  go_wp2_with fail
  refine dc_end rfl rfl HZ5.out (Nat.le_trans HBw.out HW.out) HD5.out HF5.out HW.out rfl rfl ?_
  intro X hX hX2
  exact ⟨rfl, ⟨_, hX⟩, hX2⟩
set_option maxHeartbeats 4000000 in
theorem take_chr {B d : Nat} {w0 w : World} {v : Value} {l : List UInt8} (h : Dc B d w0 w v l) (hne : l ≠ []) (h1 : l.take 2 ≠ [27, 91]) (h2 : l.take 2 ≠ [27, 79]) (h3 : l ≠ [27]) (b : UInt8) {st : St} (hC : ∀ W v1, Dc B d w0 W v1 l → Calls Tryd.prog 55 #[.pointer (some ⟨d, 0, none⟩), .int .u8 b.toNat] W (Tk B d w0 W st)) : Calls Tryd.prog 25 #[.pointer (some ⟨d, 0, none⟩), .int .u8 b.toNat] w (Tk B d w0 w st) := by
  obtain ⟨W, Z, hW, hZ, HZ, HW, k0, k1, f0, f1⟩ := key_new w
  have HBw : Hid (B ≤ w.heap.size) := h.bw
  have hd := h.more HZ.out.below
  have HFW : Hid (∀ j, Ft d w (W.drewN j)) := fun j => (Ft.of HZ.out.below).trans (Ft.of (below_drewN W j))
  have HZD : Hid (∀ j, (W.drewN j).heap[Z]? = some (.cells #[.int .i64 0, .int .i64 0] 30 (0, 0))) := fun j => HZ.out.key
  have HdZ : Hid (Z ≠ d) := by have := lt_block h.blk; show _ ≠ _; omega
  have c0 := hd.cell
  have HD := hidK (fun j => hd.more (below_drewN W j))
  obtain ⟨n, hn⟩ : ∃ n, l.length = n := ⟨_, rfl⟩
  obtain ⟨g, cap, rfl, hnc⟩ : ∃ g cap, v = .slice (some ⟨g, 0, none⟩) n cap ∧ n ≤ cap := by
    rcases hd.own.2 with ⟨_, h0⟩ | ⟨g, cap, cur, e, hb, hg, h1, h2, h3, h4⟩
    · exact absurd (List.length_eq_zero_iff.1 h0) hne
    · exact ⟨g, cap, by rw [e, hn], by rw [← hn]; exact h1⟩
  obtain ⟨k, hk⟩ : ∃ k, min n 2 = k := ⟨_, rfl⟩
  have hcv := take_text hd hn k hk
  have hmin : min (n : Int) 2 = (k : Int) := by omega
  have hkc : (k : Int) ≤ (cap : Int) := by omega
  have hkn : k ≤ cap := by omega
  obtain ⟨S, hS⟩ : ∃ S, str (l.take 2) = S := ⟨_, rfl⟩
  have tS : S.toList = l.take 2 := by rw [← hS, str_toList]
  rw [hS] at hcv
  have t3 : l.take 2 ≠ [27] := by
    intro e
    match l, h3, e with
    | [], _, e => cases e
    | [a], h3, e => exact h3 e
    | a :: c :: r, _, e => simp at e
  have t4 : l.take 2 ≠ [] := by
    intro e
    match l, hne, e with
    | a :: r, _, e => simp at e
  have y1 : (S.toList == [27, 91]) = false := by rw [tS]; simpa using h1
  have y2 : (S.toList == [27, 79]) = false := by rw [tS]; simpa using h2
  have y3 : (S.toList == [27]) = false := by rw [tS]; simpa using t3
  have y4 : ¬ S.toList = [] := by rw [tS]; exact t4
  have y5 : S.toList.isEmpty = false := by rw [tS]; simpa using t4
  have HC := hidK (fun j => hC (W.drewN j) _ (HD.out j))
  obtain ⟨bn, hbn⟩ : ∃ bn, b.toNat = bn := ⟨_, rfl⟩
  rw [hbn] at HC ⊢
  clear h hd hn hk hS tS h1 h2 h3 t3 t4 hne hC hnc hbn
  go_enter Tryd.func25, Tryd.ntmps25
  go_wp2_with fail
  go_quiet (fail)
  rename_i nq
  clear hcv c0 k0 k1 f0 f1
  go_wp2_with fail
  refine (HC.out nq).mono ?_
  rintro e w5 ⟨rfl, ⟨v5, hd5⟩, hf5⟩
  have hz5 : w5.heap[Z]? = some (.cells #[.int .i64 0, .int .i64 0] 30 (0, 0)) := hf5 _ _ _ _ (HZD.out nq) (by decide) HdZ.out
  have HZ5 := hidK hz5
  have HD5 := hidK hd5
  have HF5 := hidK ((HFW.out nq).trans hf5)
  have z0 : w5.cell? ⟨Z, 0, none⟩ = some (.int .i64 0) := cell_at hz5 0
  have z1 : w5.cell? ⟨Z, 1, none⟩ = some (.int .i64 0) := cell_at hz5 1
  have z2 : w5.frozen? ⟨Z, 0, none⟩ = false := free_at hz5 0
  have z3 : w5.frozen? ⟨Z, 1, none⟩ = false := free_at hz5 1
  clear hz5 hd5 hf5
  go_wp2_with fail
  refine dc_end rfl rfl HZ5.out (Nat.le_trans HBw.out HW.out) HD5.out HF5.out HW.out rfl rfl ?_
  intro X hX hX2
  exact ⟨rfl, ⟨_, hX⟩, hX2⟩
set_option maxHeartbeats 4000000 in
theorem take_shift {B d : Nat} {w0 w : World} {v : Value} {l : List UInt8} (h : Dc B d w0 w v l) (hT : Tabs w0) (ht : l.take 2 = [27, 79]) (b : UInt8) {st : St} (hst : st = ([], inShiftF (Lib.encodeRune b.toNat))) : Calls Tryd.prog 25 #[.pointer (some ⟨d, 0, none⟩), .int .u8 b.toNat] w (Tk B d w0 w st) := by
  obtain ⟨W, Z, hW, hZ, HZ, HW, k0, k1, f0, f1⟩ := key_new w
  have HBw : Hid (B ≤ w.heap.size) := h.bw
  have hd := h.more HZ.out.below
  have HFW : Hid (∀ j, Ft d w (W.drewN j)) := fun j => (Ft.of HZ.out.below).trans (Ft.of (below_drewN W j))
  have HZD : Hid (∀ j, (W.drewN j).heap[Z]? = some (.cells #[.int .i64 0, .int .i64 0] 30 (0, 0))) := fun j => HZ.out.key
  have HdZ : Hid (Z ≠ d) := by have := lt_block h.blk; show _ ≠ _; omega
  have c0 := hd.cell
  have HD := hidK (fun j => hd.more (below_drewN W j))
  have hne : l ≠ [] := fun e => by rw [e] at ht; cases ht
  obtain ⟨n, hn⟩ : ∃ n, l.length = n := ⟨_, rfl⟩
  obtain ⟨g, cap, rfl, hnc⟩ : ∃ g cap, v = .slice (some ⟨g, 0, none⟩) n cap ∧ n ≤ cap := by
    rcases hd.own.2 with ⟨_, h0⟩ | ⟨g, cap, cur, e, hb, hg, h1, h2, h3, h4⟩
    · exact absurd (List.length_eq_zero_iff.1 h0) hne
    · exact ⟨g, cap, by rw [e, hn], by rw [← hn]; exact h1⟩
  obtain ⟨k, hk⟩ : ∃ k, min n 2 = k := ⟨_, rfl⟩
  have hcv := take_text hd hn k hk
  have hmin : min (n : Int) 2 = (k : Int) := by omega
  have hkc : (k : Int) ≤ (cap : Int) := by omega
  have hkn : k ≤ cap := by omega
  obtain ⟨S, hS⟩ : ∃ S, str (l.take 2) = S := ⟨_, rfl⟩
  have tS : S.toList = l.take 2 := by rw [← hS, str_toList]
  rw [hS] at hcv
  have y1 : (S.toList == [27, 91]) = false := by rw [tS, ht]; rfl
  have y2 : (S.toList == [27, 79]) = true := by rw [tS, ht]; rfl
  have HDr := hidK (fun j => drop_any (HD.out j))
  have HTs := hidK (fun X v' l' (hX : Dc B d w0 X v' l') => hX.tabs hT)
  have hb8 := b.toNat_lt
  have hEn : Utf8.encode (b.toNat : Int) = str (Lib.encodeRune b.toNat) := enc_eq (by omega)
  obtain ⟨E, hE⟩ : ∃ E, str (Lib.encodeRune b.toNat) = E := ⟨_, rfl⟩
  obtain ⟨x, hx⟩ : ∃ x, (inShiftF (Lib.encodeRune b.toNat)).1 = x := ⟨_, rfl⟩
  obtain ⟨y, hy⟩ : ∃ y, (inShiftF (Lib.encodeRune b.toNat)).2 = y := ⟨_, rfl⟩
  have HSh : Hid (∀ X : World, Tabs X → Calls Tryd.prog 52 #[.string E] X fun r w' => r = .returned (.agg #[.int .i64 x, .int .i64 y]) ∧ Below X.heap.size X w') := fun X hX => by rw [← hE, ← hx, ← hy]; exact inShift_any _ hX
  have HST : Hid (st = ([], (x, y))) := by show _ = _; rw [hst, ← hx, ← hy]
  obtain ⟨bn, hbn⟩ : ∃ bn, b.toNat = bn := ⟨_, rfl⟩
  rw [hE, hbn] at hEn
  rw [hbn] at hb8 ⊢
  have hw : IntKind.i32.wrap (bn : Int) = (bn : Int) := by
    have := IntKind.wrap_i32 (bn : Int)
    omega
  clear h hd hn hk hS tS ht hne hnc hbn hx hy hE hst hT
  go_enter Tryd.func25, Tryd.ntmps25
  go_wp2_with fail
  go_quiet (fail)
  rename_i nq
  clear hcv c0 k0 k1 f0 f1
  go_wp2_with fail
  refine (HDr.out nq).mono ?_
  rintro e w5 ⟨rfl, ⟨v5, hd5⟩, hf5⟩
  have hz5 : w5.heap[Z]? = some (.cells #[.int .i64 0, .int .i64 0] 30 (0, 0)) := hf5 _ _ _ _ (HZD.out nq) (by decide) HdZ.out
  have HZ5 := hidK hz5
  have HD5 := hidK hd5
  have HF5 := hidK ((HFW.out nq).trans hf5)
  clear hz5 hd5 hf5
  go_wp2_with fail
  refine (HSh.out _ (HTs.out _ _ _ HD5.out)).mono ?_
  rintro e w7 ⟨rfl, hb7⟩
  have hz7 : w7.heap[Z]? = some (.cells #[.int .i64 0, .int .i64 0] 30 (0, 0)) := (hb7.block Z (lt_block HZ5.out)).trans HZ5.out
  have HZ7 := hidK hz7
  have HD7 := hidK (HD5.out.more hb7)
  have HF7 := hidK (HF5.out.trans (Ft.of hb7))
  have z0 : w7.cell? ⟨Z, 0, none⟩ = some (.int .i64 0) := cell_at hz7 0
  have z1 : w7.cell? ⟨Z, 1, none⟩ = some (.int .i64 0) := cell_at hz7 1
  have z2 : w7.frozen? ⟨Z, 0, none⟩ = false := free_at hz7 0
  have z3 : w7.frozen? ⟨Z, 1, none⟩ = false := free_at hz7 1
  clear hz7 hb7
  go_wp2_with fail
  refine dc_end rfl rfl HZ7.out (Nat.le_trans HBw.out HW.out) HD7.out HF7.out HW.out rfl rfl ?_
  intro X hX hX2
  rw [HST.out]
  exact ⟨rfl, ⟨_, hX⟩, hX2⟩
set_option maxHeartbeats 4000000 in
theorem take_hold {B d : Nat} {w0 w : World} {v : Value} {l : List UInt8} (h : Dc B d w0 w v l) (ht : l = [27]) (b : UInt8) (hb : b = 91 ∨ b = 79) {st : St} (hst : st = (l ++ [b], (0, 0))) : Calls Tryd.prog 25 #[.pointer (some ⟨d, 0, none⟩), .int .u8 b.toNat] w (Tk B d w0 w st) := by
  obtain ⟨W, Z, hW, hZ, HZ, HW, k0, k1, f0, f1⟩ := key_new w
  have HBw : Hid (B ≤ w.heap.size) := h.bw
  have hd := h.more HZ.out.below
  have HFW : Hid (∀ j, Ft d w (W.drewN j)) := fun j => (Ft.of HZ.out.below).trans (Ft.of (below_drewN W j))
  have HZD : Hid (∀ j, (W.drewN j).heap[Z]? = some (.cells #[.int .i64 0, .int .i64 0] 30 (0, 0))) := fun j => HZ.out.key
  have HdZ : Hid (Z ≠ d) := by have := lt_block h.blk; show _ ≠ _; omega
  have c0 := hd.cell
  have HD := hidK (fun j => hd.more (below_drewN W j))
  have hne : l ≠ [] := fun e => by rw [e] at ht; cases ht
  obtain ⟨n, hn⟩ : ∃ n, l.length = n := ⟨_, rfl⟩
  obtain ⟨g, cap, rfl, hnc⟩ : ∃ g cap, v = .slice (some ⟨g, 0, none⟩) n cap ∧ n ≤ cap := by
    rcases hd.own.2 with ⟨_, h0⟩ | ⟨g, cap, cur, e, hb, hg, h1, h2, h3, h4⟩
    · exact absurd (List.length_eq_zero_iff.1 h0) hne
    · exact ⟨g, cap, by rw [e, hn], by rw [← hn]; exact h1⟩
  obtain ⟨k, hk⟩ : ∃ k, min n 2 = k := ⟨_, rfl⟩
  have hcv := take_text hd hn k hk
  have hmin : min (n : Int) 2 = (k : Int) := by omega
  have hkc : (k : Int) ≤ (cap : Int) := by omega
  have hkn : k ≤ cap := by omega
  obtain ⟨S, hS⟩ : ∃ S, str (l.take 2) = S := ⟨_, rfl⟩
  have tS : S.toList = l.take 2 := by rw [← hS, str_toList]
  rw [hS] at hcv
  have y1 : (S.toList == [27, 91]) = false := by rw [tS, ht]; rfl
  have y2 : (S.toList == [27, 79]) = false := by rw [tS, ht]; rfl
  have y3 : (S.toList == [27]) = true := by rw [tS, ht]; rfl
  have HC : Hid (∀ j, Calls Tryd.prog 53 #[.pointer (some ⟨d, 0, none⟩), .int .u8 b.toNat] (W.drewN j) fun r w' => r = .returned (.agg #[.int .i64 0, .int .i64 0]) ∧ (∃ v', Dc B d w0 w' v' st.1) ∧ Ft d (W.drewN j) w') := fun j => by
    rw [hst]
    exact hold_any (HD.out j) (by rw [ht]; simp) b
  have HST : Hid (st.2 = (0, 0)) := by show _ = _; rw [hst]
  have hbn : b.toNat = 91 ∨ b.toNat = 79 := by rcases hb with e | e <;> subst e <;> simp
  obtain ⟨bn, hbn2⟩ : ∃ bn, b.toNat = bn := ⟨_, rfl⟩
  rw [hbn2] at HC hbn ⊢
  clear h hd hn hk hS tS ht hne hnc hbn2 hst hb
  rcases hbn with e | e
  · subst e
    go_enter Tryd.func25, Tryd.ntmps25
    go_wp2_with fail
    go_quiet (fail)
    rename_i nq
    clear hcv c0 k0 k1 f0 f1
    go_wp2_with fail
    refine (HC.out nq).mono ?_
    rintro e w5 ⟨rfl, ⟨v5, hd5⟩, hf5⟩
    have hz5 : w5.heap[Z]? = some (.cells #[.int .i64 0, .int .i64 0] 30 (0, 0)) := hf5 _ _ _ _ (HZD.out nq) (by decide) HdZ.out
    have HZ5 := hidK hz5
    have HD5 := hidK hd5
    have HF5 := hidK ((HFW.out nq).trans hf5)
    have z0 : w5.cell? ⟨Z, 0, none⟩ = some (.int .i64 0) := cell_at hz5 0
    have z1 : w5.cell? ⟨Z, 1, none⟩ = some (.int .i64 0) := cell_at hz5 1
    have z2 : w5.frozen? ⟨Z, 0, none⟩ = false := free_at hz5 0
    have z3 : w5.frozen? ⟨Z, 1, none⟩ = false := free_at hz5 1
    clear hz5 hd5 hf5
    go_wp2_with fail
    refine dc_end rfl rfl HZ5.out (Nat.le_trans HBw.out HW.out) HD5.out HF5.out HW.out rfl rfl ?_
    intro X hX hX2
    exact ⟨by rw [HST.out], ⟨_, hX⟩, hX2⟩
  · subst e
    go_enter Tryd.func25, Tryd.ntmps25
    go_wp2_with fail
    go_quiet (fail)
    rename_i nq
    clear hcv c0 k0 k1 f0 f1
    go_wp2_with fail
    refine (HC.out nq).mono ?_
    rintro e w5 ⟨rfl, ⟨v5, hd5⟩, hf5⟩
    have hz5 : w5.heap[Z]? = some (.cells #[.int .i64 0, .int .i64 0] 30 (0, 0)) := hf5 _ _ _ _ (HZD.out nq) (by decide) HdZ.out
    have HZ5 := hidK hz5
    have HD5 := hidK hd5
    have HF5 := hidK ((HFW.out nq).trans hf5)
    have z0 : w5.cell? ⟨Z, 0, none⟩ = some (.int .i64 0) := cell_at hz5 0
    have z1 : w5.cell? ⟨Z, 1, none⟩ = some (.int .i64 0) := cell_at hz5 1
    have z2 : w5.frozen? ⟨Z, 0, none⟩ = false := free_at hz5 0
    have z3 : w5.frozen? ⟨Z, 1, none⟩ = false := free_at hz5 1
    clear hz5 hd5 hf5
    go_wp2_with fail
    refine dc_end rfl rfl HZ5.out (Nat.le_trans HBw.out HW.out) HD5.out HF5.out HW.out rfl rfl ?_
    intro X hX hX2
    exact ⟨by rw [HST.out], ⟨_, hX⟩, hX2⟩
set_option maxHeartbeats 4000000 in
theorem take_meta {B d : Nat} {w0 w : World} {v : Value} {l : List UInt8} (h : Dc B d w0 w v l) (ht : l = [27]) (b : UInt8) (hb1 : b ≠ 91) (hb2 : b ≠ 79) {st : St} (hC : ∀ W v1, Dc B d w0 W v1 l → Calls Tryd.prog 54 #[.pointer (some ⟨d, 0, none⟩), .int .u8 b.toNat] W (Tk B d w0 W st)) : Calls Tryd.prog 25 #[.pointer (some ⟨d, 0, none⟩), .int .u8 b.toNat] w (Tk B d w0 w st) := by
  obtain ⟨W, Z, hW, hZ, HZ, HW, k0, k1, f0, f1⟩ := key_new w
  have HBw : Hid (B ≤ w.heap.size) := h.bw
  have hd := h.more HZ.out.below
  have HFW : Hid (∀ j, Ft d w (W.drewN j)) := fun j => (Ft.of HZ.out.below).trans (Ft.of (below_drewN W j))
  have HZD : Hid (∀ j, (W.drewN j).heap[Z]? = some (.cells #[.int .i64 0, .int .i64 0] 30 (0, 0))) := fun j => HZ.out.key
  have HdZ : Hid (Z ≠ d) := by have := lt_block h.blk; show _ ≠ _; omega
  have c0 := hd.cell
  have HD := hidK (fun j => hd.more (below_drewN W j))
  have hne : l ≠ [] := fun e => by rw [e] at ht; cases ht
  obtain ⟨n, hn⟩ : ∃ n, l.length = n := ⟨_, rfl⟩
  obtain ⟨g, cap, rfl, hnc⟩ : ∃ g cap, v = .slice (some ⟨g, 0, none⟩) n cap ∧ n ≤ cap := by
    rcases hd.own.2 with ⟨_, h0⟩ | ⟨g, cap, cur, e, hb, hg, h1, h2, h3, h4⟩
    · exact absurd (List.length_eq_zero_iff.1 h0) hne
    · exact ⟨g, cap, by rw [e, hn], by rw [← hn]; exact h1⟩
  obtain ⟨k, hk⟩ : ∃ k, min n 2 = k := ⟨_, rfl⟩
  have hcv := take_text hd hn k hk
  have hmin : min (n : Int) 2 = (k : Int) := by omega
  have hkc : (k : Int) ≤ (cap : Int) := by omega
  have hkn : k ≤ cap := by omega
  obtain ⟨S, hS⟩ : ∃ S, str (l.take 2) = S := ⟨_, rfl⟩
  have tS : S.toList = l.take 2 := by rw [← hS, str_toList]
  rw [hS] at hcv
  have y1 : (S.toList == [27, 91]) = false := by rw [tS, ht]; rfl
  have y2 : (S.toList == [27, 79]) = false := by rw [tS, ht]; rfl
  have y3 : (S.toList == [27]) = true := by rw [tS, ht]; rfl
  have HC := hidK (fun j => hC (W.drewN j) _ (HD.out j))
  have e1 : ((b.toNat : Int) == 91) = false := by
    simp only [beq_eq_false_iff_ne, ne_eq]
    exact fun e => hb1 (UInt8.toNat_inj.1 (by have : (91 : UInt8).toNat = 91 := rfl; omega))
  have e2 : ((b.toNat : Int) == 79) = false := by
    simp only [beq_eq_false_iff_ne, ne_eq]
    exact fun e => hb2 (UInt8.toNat_inj.1 (by have : (79 : UInt8).toNat = 79 := rfl; omega))
  obtain ⟨bn, hbn⟩ : ∃ bn, b.toNat = bn := ⟨_, rfl⟩
  rw [hbn] at HC e1 e2 ⊢
  clear h hd hn hk hS tS ht hne hC hnc hbn hb1 hb2
  go_enter Tryd.func25, Tryd.ntmps25
  go_wp2_with fail
  go_quiet (fail)
  rename_i nq
  clear hcv c0 k0 k1 f0 f1
  go_wp2_with fail
  refine (HC.out nq).mono ?_
  rintro e w5 ⟨rfl, ⟨v5, hd5⟩, hf5⟩
  have hz5 : w5.heap[Z]? = some (.cells #[.int .i64 0, .int .i64 0] 30 (0, 0)) := hf5 _ _ _ _ (HZD.out nq) (by decide) HdZ.out
  have HZ5 := hidK hz5
  have HD5 := hidK hd5
  have HF5 := hidK ((HFW.out nq).trans hf5)
  have z0 : w5.cell? ⟨Z, 0, none⟩ = some (.int .i64 0) := cell_at hz5 0
  have z1 : w5.cell? ⟨Z, 1, none⟩ = some (.int .i64 0) := cell_at hz5 1
  have z2 : w5.frozen? ⟨Z, 0, none⟩ = false := free_at hz5 0
  have z3 : w5.frozen? ⟨Z, 1, none⟩ = false := free_at hz5 1
  clear hz5 hd5 hf5
  go_wp2_with fail
  refine dc_end rfl rfl HZ5.out (Nat.le_trans HBw.out HW.out) HD5.out HF5.out HW.out rfl rfl ?_
  intro X hX hX2
  exact ⟨rfl, ⟨_, hX⟩, hX2⟩
set_option maxHeartbeats 4000000 in
theorem take_none {B d : Nat} {w0 w : World} {v : Value} (h : Dc B d w0 w v []) (b : UInt8) (hb27 : b ≠ 27) {st : St} (hC : ∀ W v1, Dc B d w0 W v1 [] → Calls Tryd.prog 54 #[.pointer (some ⟨d, 0, none⟩), .int .u8 b.toNat] W (Tk B d w0 W st)) : Calls Tryd.prog 25 #[.pointer (some ⟨d, 0, none⟩), .int .u8 b.toNat] w (Tk B d w0 w st) := by
  obtain ⟨W, Z, hW, hZ, HZ, HW, k0, k1, f0, f1⟩ := key_new w
  have HBw : Hid (B ≤ w.heap.size) := h.bw
  have hd := h.more HZ.out.below
  have HFW : Hid (∀ j, Ft d w (W.drewN j)) := fun j => (Ft.of HZ.out.below).trans (Ft.of (below_drewN W j))
  have HZD : Hid (∀ j, (W.drewN j).heap[Z]? = some (.cells #[.int .i64 0, .int .i64 0] 30 (0, 0))) := fun j => HZ.out.key
  have HdZ : Hid (Z ≠ d) := by have := lt_block h.blk; show _ ≠ _; omega
  have c0 := hd.cell
  have HD := hidK (fun j => hd.more (below_drewN W j))
  have HC := hidK (fun j => hC (W.drewN j) _ (HD.out j))
  have e1 : ((b.toNat : Int) == 27) = false := by
    simp only [beq_eq_false_iff_ne, ne_eq]
    exact fun e => hb27 (UInt8.toNat_inj.1 (by have : (27 : UInt8).toNat = 27 := rfl; omega))
  obtain ⟨bn, hbn⟩ : ∃ bn, b.toNat = bn := ⟨_, rfl⟩
  rw [hbn] at HC e1 ⊢
  rcases hd.own.2 with ⟨rfl, h0⟩ | ⟨g, cap, cur, rfl, hb, hg, h1, h2, h3, h4⟩
  · have hcv : ∀ j, (convert 52 9 (.slice none 0 0)).run Tryd.prog (W.drewN j) = .ok (.string ⟨#[]⟩) (W.drewN j) := fun j => by rw [run_convert_bytes_string (W.drewN j) 52 9 5 none 0 0 underBy Tryd.underlying5 Tryd.underlying9]; rfl
    have hmin : min (0 : Int) 2 = 0 := by decide
    clear h hd h0 hC hbn hb27
    go_enter Tryd.func25, Tryd.ntmps25
    go_wp2_with fail
    go_quiet (fail)
    rename_i nq
    clear hcv c0 k0 k1 f0 f1
    go_wp2_with fail
    refine (HC.out nq).mono ?_
    rintro e w5 ⟨rfl, ⟨v5, hd5⟩, hf5⟩
    have hz5 : w5.heap[Z]? = some (.cells #[.int .i64 0, .int .i64 0] 30 (0, 0)) := hf5 _ _ _ _ (HZD.out nq) (by decide) HdZ.out
    have HZ5 := hidK hz5
    have HD5 := hidK hd5
    have HF5 := hidK ((HFW.out nq).trans hf5)
    have z0 : w5.cell? ⟨Z, 0, none⟩ = some (.int .i64 0) := cell_at hz5 0
    have z1 : w5.cell? ⟨Z, 1, none⟩ = some (.int .i64 0) := cell_at hz5 1
    have z2 : w5.frozen? ⟨Z, 0, none⟩ = false := free_at hz5 0
    have z3 : w5.frozen? ⟨Z, 1, none⟩ = false := free_at hz5 1
    clear hz5 hd5 hf5
    go_wp2_with fail
    refine dc_end rfl rfl HZ5.out (Nat.le_trans HBw.out HW.out) HD5.out HF5.out HW.out rfl rfl ?_
    intro X hX hX2
    exact ⟨rfl, ⟨_, hX⟩, hX2⟩
  · have hcv : ∀ j, (convert 52 9 (.slice (some ⟨g, 0, none⟩) 0 cap)).run Tryd.prog (W.drewN j) = .ok (.string ⟨#[]⟩) (W.drewN j) := fun j => take_text hd rfl 0 rfl j
    have hmin : min (0 : Int) 2 = 0 := by decide
    simp only [List.length_nil] at c0
    clear h hd hb hg h1 h2 h3 h4 hC hbn hb27
    go_enter Tryd.func25, Tryd.ntmps25
    go_wp2_with fail
    go_quiet (fail)
    rename_i nq
    clear hcv c0 k0 k1 f0 f1
    go_wp2_with fail
    refine (HC.out nq).mono ?_
    rintro e w5 ⟨rfl, ⟨v5, hd5⟩, hf5⟩
    have hz5 : w5.heap[Z]? = some (.cells #[.int .i64 0, .int .i64 0] 30 (0, 0)) := hf5 _ _ _ _ (HZD.out nq) (by decide) HdZ.out
    have HZ5 := hidK hz5
    have HD5 := hidK hd5
    have HF5 := hidK ((HFW.out nq).trans hf5)
    have z0 : w5.cell? ⟨Z, 0, none⟩ = some (.int .i64 0) := cell_at hz5 0
    have z1 : w5.cell? ⟨Z, 1, none⟩ = some (.int .i64 0) := cell_at hz5 1
    have z2 : w5.frozen? ⟨Z, 0, none⟩ = false := free_at hz5 0
    have z3 : w5.frozen? ⟨Z, 1, none⟩ = false := free_at hz5 1
    clear hz5 hd5 hf5
    go_wp2_with fail
    refine dc_end rfl rfl HZ5.out (Nat.le_trans HBw.out HW.out) HD5.out HF5.out HW.out rfl rfl ?_
    intro X hX hX2
    exact ⟨rfl, ⟨_, hX⟩, hX2⟩
set_option maxHeartbeats 4000000 in
theorem take_e {B d : Nat} {w0 w : World} {v : Value} (h : Dc B d w0 w v []) (b : UInt8) (hb27 : b = 27) {st : St} (hst : st = ([27], (0, 0))) : Calls Tryd.prog 25 #[.pointer (some ⟨d, 0, none⟩), .int .u8 b.toNat] w (Tk B d w0 w st) := by
  obtain ⟨W, Z, hW, hZ, HZ, HW, k0, k1, f0, f1⟩ := key_new w
  have HBw : Hid (B ≤ w.heap.size) := h.bw
  have hd := h.more HZ.out.below
  have HFW : Hid (∀ j, Ft d w (W.drewN j)) := fun j => (Ft.of HZ.out.below).trans (Ft.of (below_drewN W j))
  have HZD : Hid (∀ j, (W.drewN j).heap[Z]? = some (.cells #[.int .i64 0, .int .i64 0] 30 (0, 0))) := fun j => HZ.out.key
  have HdZ : Hid (Z ≠ d) := by have := lt_block h.blk; show _ ≠ _; omega
  have c0 := hd.cell
  have HD := hidK (fun j => hd.more (below_drewN W j))
  have HC : Hid (∀ j, Calls Tryd.prog 53 #[.pointer (some ⟨d, 0, none⟩), .int .u8 27] (W.drewN j) fun r w' => r = .returned (.agg #[.int .i64 0, .int .i64 0]) ∧ (∃ v', Dc B d w0 w' v' st.1) ∧ Ft d (W.drewN j) w') := fun j => by
    rw [hst]
    exact hold_any (HD.out j) (by simp) 27
  have HST : Hid (st.2 = (0, 0)) := by show _ = _; rw [hst]
  subst hb27
  have e27 : ((27 : UInt8).toNat : Int) = 27 := by decide
  rw [e27]
  rcases hd.own.2 with ⟨rfl, h0⟩ | ⟨g, cap, cur, rfl, hb, hg, h1, h2, h3, h4⟩
  · have hcv : ∀ j, (convert 52 9 (.slice none 0 0)).run Tryd.prog (W.drewN j) = .ok (.string ⟨#[]⟩) (W.drewN j) := fun j => by rw [run_convert_bytes_string (W.drewN j) 52 9 5 none 0 0 underBy Tryd.underlying5 Tryd.underlying9]; rfl
    have hmin : min (0 : Int) 2 = 0 := by decide
    clear h hd h0 hst e27
    go_enter Tryd.func25, Tryd.ntmps25
    go_wp2_with fail
    go_quiet (fail)
    rename_i nq
    clear hcv c0 k0 k1 f0 f1
    go_wp2_with fail
    refine (HC.out nq).mono ?_
    rintro e w5 ⟨rfl, ⟨v5, hd5⟩, hf5⟩
    have hz5 : w5.heap[Z]? = some (.cells #[.int .i64 0, .int .i64 0] 30 (0, 0)) := hf5 _ _ _ _ (HZD.out nq) (by decide) HdZ.out
    have HZ5 := hidK hz5
    have HD5 := hidK hd5
    have HF5 := hidK ((HFW.out nq).trans hf5)
    have z0 : w5.cell? ⟨Z, 0, none⟩ = some (.int .i64 0) := cell_at hz5 0
    have z1 : w5.cell? ⟨Z, 1, none⟩ = some (.int .i64 0) := cell_at hz5 1
    have z2 : w5.frozen? ⟨Z, 0, none⟩ = false := free_at hz5 0
    have z3 : w5.frozen? ⟨Z, 1, none⟩ = false := free_at hz5 1
    clear hz5 hd5 hf5
    go_wp2_with fail
    refine dc_end rfl rfl HZ5.out (Nat.le_trans HBw.out HW.out) HD5.out HF5.out HW.out rfl rfl ?_
    intro X hX hX2
    exact ⟨by rw [HST.out], ⟨_, hX⟩, hX2⟩
  · have hcv : ∀ j, (convert 52 9 (.slice (some ⟨g, 0, none⟩) 0 cap)).run Tryd.prog (W.drewN j) = .ok (.string ⟨#[]⟩) (W.drewN j) := fun j => take_text hd rfl 0 rfl j
    have hmin : min (0 : Int) 2 = 0 := by decide
    simp only [List.length_nil] at c0
    clear h hd hb hg h1 h2 h3 h4 hst e27
    go_enter Tryd.func25, Tryd.ntmps25
    go_wp2_with fail
    go_quiet (fail)
    rename_i nq
    clear hcv c0 k0 k1 f0 f1
    go_wp2_with fail
    refine (HC.out nq).mono ?_
    rintro e w5 ⟨rfl, ⟨v5, hd5⟩, hf5⟩
    have hz5 : w5.heap[Z]? = some (.cells #[.int .i64 0, .int .i64 0] 30 (0, 0)) := hf5 _ _ _ _ (HZD.out nq) (by decide) HdZ.out
    have HZ5 := hidK hz5
    have HD5 := hidK hd5
    have HF5 := hidK ((HFW.out nq).trans hf5)
    have z0 : w5.cell? ⟨Z, 0, none⟩ = some (.int .i64 0) := cell_at hz5 0
    have z1 : w5.cell? ⟨Z, 1, none⟩ = some (.int .i64 0) := cell_at hz5 1
    have z2 : w5.frozen? ⟨Z, 0, none⟩ = false := free_at hz5 0
    have z3 : w5.frozen? ⟨Z, 1, none⟩ = false := free_at hz5 1
    clear hz5 hd5 hf5
    go_wp2_with fail
    refine dc_end rfl rfl HZ5.out (Nat.le_trans HBw.out HW.out) HD5.out HF5.out HW.out rfl rfl ?_
    intro X hX hX2
    exact ⟨by rw [HST.out], ⟨_, hX⟩, hX2⟩
end Go.Proofs.YtghepjjfdaecgaaDoor
