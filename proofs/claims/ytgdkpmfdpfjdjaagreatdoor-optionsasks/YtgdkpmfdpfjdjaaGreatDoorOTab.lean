/-
  Options: the table.
-/
import Derived.Test.YtgdkpmfdpfjdjaaGreatDoorOTbP
namespace Go.Proofs.YtgdkpmfdpfjdjaaGreatDoor
open Go.RowKit Go.Maps
set_option linter.unusedVariables false
set_option maxRecDepth 100000

/-- The table's rows, by rising name. -/
def rowsO : List Orow := [
  ⟨⟨#[98, 97, 115, 101, 45, 105, 110, 100, 101, 120]⟩, 2, .num 0 9999, ⟨#[48]⟩⟩,
  ⟨⟨#[98, 117, 102, 102, 101, 114, 45, 108, 105, 109, 105, 116]⟩, 1, .num 1 20, ⟨#[50, 48]⟩⟩,
  ⟨⟨#[100, 105, 115, 112, 108, 97, 121, 45, 108, 105, 110, 101, 115]⟩, 2, .num 1 50, ⟨#[53]⟩⟩,
  ⟨⟨#[101, 115, 99, 97, 112, 101, 45, 116, 105, 109, 101]⟩, 1, .num 0 100, ⟨#[49]⟩⟩,
  ⟨⟨#[104, 105, 115, 116, 111, 114, 121, 45, 108, 105, 109, 105, 116]⟩, 2, .num 0 2000, ⟨#[50, 48, 48]⟩⟩,
  ⟨⟨#[107, 101, 121, 45, 116, 97, 98, 108, 101]⟩, 2, .txt, ⟨#[114, 111, 111, 116]⟩⟩,
  ⟨⟨#[109, 111, 100, 101, 45, 115, 116, 121, 108, 101]⟩, 3, .cho [⟨#[112, 108, 97, 105, 110]⟩, ⟨#[114, 101, 118, 101, 114, 115, 101]⟩, ⟨#[98, 111, 108, 100]⟩], ⟨#[114, 101, 118, 101, 114, 115, 101]⟩⟩,
  ⟨⟨#[109, 111, 110, 105, 116, 111, 114, 45, 98, 101, 108, 108]⟩, 3, .flag, ⟨#[111, 110]⟩⟩,
  ⟨⟨#[112, 97, 110, 101, 45, 98, 111, 114, 100, 101, 114]⟩, 3, .cho [⟨#[108, 105, 110, 101]⟩, ⟨#[100, 111, 117, 98, 108, 101]⟩, ⟨#[98, 108, 97, 110, 107]⟩], ⟨#[108, 105, 110, 101]⟩⟩,
  ⟨⟨#[112, 114, 101, 102, 105, 120]⟩, 2, .key, ⟨#[67, 45, 98]⟩⟩,
  ⟨⟨#[114, 101, 112, 101, 97, 116, 45, 116, 105, 109, 101]⟩, 2, .num 0 100, ⟨#[50]⟩⟩,
  ⟨⟨#[115, 99, 114, 111, 108, 108, 45, 107, 101, 101, 112]⟩, 4, .flag, ⟨#[111, 110]⟩⟩,
  ⟨⟨#[115, 101, 116, 45, 116, 105, 116, 108, 101, 115]⟩, 2, .flag, ⟨#[111, 102, 102]⟩⟩,
  ⟨⟨#[115, 116, 97, 116, 117, 115]⟩, 2, .flag, ⟨#[111, 110]⟩⟩,
  ⟨⟨#[115, 116, 97, 116, 117, 115, 45, 108, 101, 102, 116]⟩, 2, .txt, ⟨#[91, 35, 123, 115, 101, 115, 115, 105, 111, 110, 95, 110, 97, 109, 101, 125, 93]⟩⟩,
  ⟨⟨#[115, 116, 97, 116, 117, 115, 45, 112, 111, 115, 105, 116, 105, 111, 110]⟩, 2, .cho [⟨#[98, 111, 116, 116, 111, 109]⟩, ⟨#[116, 111, 112]⟩], ⟨#[98, 111, 116, 116, 111, 109]⟩⟩,
  ⟨⟨#[115, 116, 97, 116, 117, 115, 45, 114, 105, 103, 104, 116]⟩, 2, .txt, ⟨#[35, 123, 119, 105, 110, 100, 111, 119, 95, 119, 105, 100, 116, 104, 125, 120, 35, 123, 119, 105, 110, 100, 111, 119, 95, 104, 101, 105, 103, 104, 116, 125]⟩⟩,
  ⟨⟨#[115, 121, 110, 99, 104, 114, 111, 110, 105, 122, 101]⟩, 3, .flag, ⟨#[111, 102, 102]⟩⟩,
  ⟨⟨#[119, 105, 110, 100, 111, 119, 45, 99, 117, 114, 114, 101, 110, 116, 45, 102, 111, 114, 109, 97, 116]⟩, 3, .txt, ⟨#[35, 123, 119, 105, 110, 100, 111, 119, 95, 105, 110, 100, 101, 120, 125, 58, 35, 123, 119, 105, 110, 100, 111, 119, 95, 110, 97, 109, 101, 125, 35, 123, 119, 105, 110, 100, 111, 119, 95, 102, 108, 97, 103, 115, 125]⟩⟩,
  ⟨⟨#[119, 105, 110, 100, 111, 119, 45, 102, 111, 114, 109, 97, 116]⟩, 3, .txt, ⟨#[35, 123, 119, 105, 110, 100, 111, 119, 95, 105, 110, 100, 101, 120, 125, 58, 35, 123, 119, 105, 110, 100, 111, 119, 95, 110, 97, 109, 101, 125, 35, 123, 119, 105, 110, 100, 111, 119, 95, 102, 108, 97, 103, 115, 125]⟩⟩,
  ⟨⟨#[119, 111, 114, 100, 45, 115, 101, 112, 97, 114, 97, 116, 111, 114, 115]⟩, 2, .txt, ⟨#[32, 45, 95, 64]⟩⟩,
  ⟨⟨#[119, 114, 97, 112, 45, 115, 101, 97, 114, 99, 104]⟩, 4, .flag, ⟨#[111, 110]⟩⟩]
theorem Tbl.row {w Y Z : World} {b i : Nat} {l : List (ByteArray × Value)} (h : Tbl w Y b (rowsO.take i) l) (r : Orow) (hr : rowsO[i]? = some r) {kv : Value} (hk : KindAt Y b r.kd kv) (ho : Z.ownsMap Tryz.prog 9 optR b ((rowsO.take i).length + 1) ((tabD l).put (.string r.name.data.toList) (.held (optV r.scope kv r.first)))) (hg : Y.grownBy Z (some b)) : ∃ l, Tbl w Z b (rowsO.take (i + 1)) l := by
  refine ⟨l ++ [(r.name, optV r.scope kv r.first)], ?_⟩
  rw [List.take_add_one, hr]
  exact h.next r hk ho hg
set_option maxHeartbeats 40000000 in
theorem table_any {w : World} : Calls Tryz.prog 20 #[] w fun r w' => ∃ l, r = .returned (.map (some w.heap.size)) ∧ Tbl w w' w.heap.size rowsO l := by
  have hmm := @run_makeMap Tryz.prog
  obtain ⟨b, hb⟩ : ∃ b, w.heap.size = b := ⟨_, rfl⟩
  obtain ⟨Z0, hZ0⟩ : ∃ W, w.alloc (.map #[] 0) = W := ⟨_, rfl⟩
  have h0 : Tbl w Z0 b (rowsO.take 0) [] := by
    rw [← hZ0, ← hb]
    exact ⟨World.ownsMap_made _ _ _ _, rfl, fun i hi => (by cases hi), rfl, (Below.refl _ _).alloc (Nat.le_refl _) _⟩
  obtain ⟨l0, HT0⟩ : ∃ l, Hid (Tbl w Z0 b (rowsO.take 0) l) := ⟨_, h0⟩
  have HB := hidK hb
  clear h0
  rw [hb]
  go_enter Tryz.func20, Tryz.ntmps20
  go_wp2_with fail
  refine (numberO_any 0 9999).mono ?_
  rintro e Y0 ⟨v0, rfl, ⟨p0, q0, rfl, j1, j2, j3, j4⟩, hbY⟩
  have HK0 : Hid (KindAt Y0 b (.num 0 9999) _) := ⟨p0, q0, rfl, Nat.le_trans HT0.out.own.lt j1, Nat.le_trans HT0.out.own.lt j2, j3, j4⟩
  have HY0 := hidK (HT0.out.more hbY)
  clear j1 j2 j3 j4 hbY
  obtain ⟨Z1, hr, hZ, hg⟩ := HY0.out.own.ins ⟨#[98, 97, 115, 101, 45, 105, 110, 100, 101, 120]⟩ (by decide) (by decide) (.agg #[.int .i64 2, .func (.func 61) #[] #[.pointer (some ⟨p0, 0, none⟩), .pointer (some ⟨q0, 0, none⟩)], .bool false, .bool false, .string ⟨#[48]⟩])
  obtain ⟨l1, HT1⟩ : ∃ l, Hid (Tbl w Z1 b (rowsO.take 1) l) := HY0.out.row _ rfl HK0.out hZ hg
  clear hZ hg HT0 HY0 HK0
  go_wp2_with fail
  clear hr
  refine (numberO_any 1 20).mono ?_
  rintro e Y1 ⟨v1, rfl, ⟨p1, q1, rfl, j1, j2, j3, j4⟩, hbY⟩
  have HK1 : Hid (KindAt Y1 b (.num 1 20) _) := ⟨p1, q1, rfl, Nat.le_trans HT1.out.own.lt j1, Nat.le_trans HT1.out.own.lt j2, j3, j4⟩
  have HY1 := hidK (HT1.out.more hbY)
  clear j1 j2 j3 j4 hbY
  obtain ⟨Z2, hr, hZ, hg⟩ := HY1.out.own.ins ⟨#[98, 117, 102, 102, 101, 114, 45, 108, 105, 109, 105, 116]⟩ (by decide) (by decide) (.agg #[.int .i64 1, .func (.func 61) #[] #[.pointer (some ⟨p1, 0, none⟩), .pointer (some ⟨q1, 0, none⟩)], .bool false, .bool false, .string ⟨#[50, 48]⟩])
  obtain ⟨l2, HT2⟩ : ∃ l, Hid (Tbl w Z2 b (rowsO.take 2) l) := HY1.out.row _ rfl HK1.out hZ hg
  clear hZ hg HT1 HY1 HK1
  go_wp2_with fail
  clear hr
  refine (numberO_any 1 50).mono ?_
  rintro e Y2 ⟨v2, rfl, ⟨p2, q2, rfl, j1, j2, j3, j4⟩, hbY⟩
  have HK2 : Hid (KindAt Y2 b (.num 1 50) _) := ⟨p2, q2, rfl, Nat.le_trans HT2.out.own.lt j1, Nat.le_trans HT2.out.own.lt j2, j3, j4⟩
  have HY2 := hidK (HT2.out.more hbY)
  clear j1 j2 j3 j4 hbY
  obtain ⟨Z3, hr, hZ, hg⟩ := HY2.out.own.ins ⟨#[100, 105, 115, 112, 108, 97, 121, 45, 108, 105, 110, 101, 115]⟩ (by decide) (by decide) (.agg #[.int .i64 2, .func (.func 61) #[] #[.pointer (some ⟨p2, 0, none⟩), .pointer (some ⟨q2, 0, none⟩)], .bool false, .bool false, .string ⟨#[53]⟩])
  obtain ⟨l3, HT3⟩ : ∃ l, Hid (Tbl w Z3 b (rowsO.take 3) l) := HY2.out.row _ rfl HK2.out hZ hg
  clear hZ hg HT2 HY2 HK2
  go_wp2_with fail
  clear hr
  refine (numberO_any 0 100).mono ?_
  rintro e Y3 ⟨v3, rfl, ⟨p3, q3, rfl, j1, j2, j3, j4⟩, hbY⟩
  have HK3 : Hid (KindAt Y3 b (.num 0 100) _) := ⟨p3, q3, rfl, Nat.le_trans HT3.out.own.lt j1, Nat.le_trans HT3.out.own.lt j2, j3, j4⟩
  have HY3 := hidK (HT3.out.more hbY)
  clear j1 j2 j3 j4 hbY
  obtain ⟨Z4, hr, hZ, hg⟩ := HY3.out.own.ins ⟨#[101, 115, 99, 97, 112, 101, 45, 116, 105, 109, 101]⟩ (by decide) (by decide) (.agg #[.int .i64 1, .func (.func 61) #[] #[.pointer (some ⟨p3, 0, none⟩), .pointer (some ⟨q3, 0, none⟩)], .bool false, .bool false, .string ⟨#[49]⟩])
  obtain ⟨l4, HT4⟩ : ∃ l, Hid (Tbl w Z4 b (rowsO.take 4) l) := HY3.out.row _ rfl HK3.out hZ hg
  clear hZ hg HT3 HY3 HK3
  go_wp2_with fail
  clear hr
  refine (numberO_any 0 2000).mono ?_
  rintro e Y4 ⟨v4, rfl, ⟨p4, q4, rfl, j1, j2, j3, j4⟩, hbY⟩
  have HK4 : Hid (KindAt Y4 b (.num 0 2000) _) := ⟨p4, q4, rfl, Nat.le_trans HT4.out.own.lt j1, Nat.le_trans HT4.out.own.lt j2, j3, j4⟩
  have HY4 := hidK (HT4.out.more hbY)
  clear j1 j2 j3 j4 hbY
  obtain ⟨Z5, hr, hZ, hg⟩ := HY4.out.own.ins ⟨#[104, 105, 115, 116, 111, 114, 121, 45, 108, 105, 109, 105, 116]⟩ (by decide) (by decide) (.agg #[.int .i64 2, .func (.func 61) #[] #[.pointer (some ⟨p4, 0, none⟩), .pointer (some ⟨q4, 0, none⟩)], .bool false, .bool false, .string ⟨#[50, 48, 48]⟩])
  obtain ⟨l5, HT5⟩ : ∃ l, Hid (Tbl w Z5 b (rowsO.take 5) l) := HY4.out.row _ rfl HK4.out hZ hg
  clear hZ hg HT4 HY4 HK4
  go_wp2_with fail
  clear hr
  refine (text_any).mono ?_
  rintro e Y5 ⟨rfl, hbY⟩
  have HK5 : Hid (KindAt Y5 b (.txt) txtV) := (rfl : txtV = txtV)
  have HY5 := hidK (HT5.out.more hbY)
  clear hbY
  obtain ⟨Z6, hr, hZ, hg⟩ := HY5.out.own.ins ⟨#[107, 101, 121, 45, 116, 97, 98, 108, 101]⟩ (by decide) (by decide) (.agg #[.int .i64 2, .func (.func 64) #[] #[], .bool true, .bool false, .string ⟨#[114, 111, 111, 116]⟩])
  obtain ⟨l6, HT6⟩ : ∃ l, Hid (Tbl w Z6 b (rowsO.take 6) l) := HY5.out.row _ rfl HK5.out hZ hg
  clear hZ hg HT5 HY5 HK5
  go_wp2_with fail
  clear hr
  obtain ⟨g6, hg6⟩ : ∃ g, Z6.heap.size = g := ⟨_, rfl⟩
  obtain ⟨X6, hX6⟩ : ∃ W, Z6.alloc (.cells #[.string ⟨#[112, 108, 97, 105, 110]⟩, .string ⟨#[114, 101, 118, 101, 114, 115, 101]⟩, .string ⟨#[98, 111, 108, 100]⟩] 9) = W := ⟨_, rfl⟩
  have j0 : X6.heap[g6]? = some (.cells #[.string ⟨#[112, 108, 97, 105, 110]⟩, .string ⟨#[114, 101, 118, 101, 114, 115, 101]⟩, .string ⟨#[98, 111, 108, 100]⟩] 9 (0, 0)) := by rw [← hX6, ← hg6]; exact heap_alloc_new _ _
  have HX6 := hidK (HT6.out.more (Y := X6) (by rw [← hX6]; exact (Below.refl _ _).alloc (Nat.le_refl _) _))
  have j9 : b + 1 ≤ g6 := by have := HT6.out.own.lt; omega
  rw [hg6, hX6]
  clear hX6 hg6
  refine (choice_any _ _ _).mono ?_
  rintro e Y6 ⟨v6, rfl, ⟨p6, rfl, j1, j2⟩, hbY⟩
  have HK6 : Hid (KindAt Y6 b (.cho [⟨#[112, 108, 97, 105, 110]⟩, ⟨#[114, 101, 118, 101, 114, 115, 101]⟩, ⟨#[98, 111, 108, 100]⟩]) _) := ⟨g6, ⟨p6, rfl, Nat.le_trans HX6.out.own.lt j1, j2⟩, j9, (hbY.block g6 (lt_block j0)).trans j0⟩
  have HY6 := hidK (HX6.out.more hbY)
  clear j0 j1 j2 j9 hbY
  obtain ⟨Z7, hr, hZ, hg⟩ := HY6.out.own.ins ⟨#[109, 111, 100, 101, 45, 115, 116, 121, 108, 101]⟩ (by decide) (by decide) (.agg #[.int .i64 3, .func (.func 65) #[] #[.pointer (some ⟨p6, 0, none⟩)], .bool false, .bool false, .string ⟨#[114, 101, 118, 101, 114, 115, 101]⟩])
  obtain ⟨l7, HT7⟩ : ∃ l, Hid (Tbl w Z7 b (rowsO.take 7) l) := HY6.out.row _ rfl HK6.out hZ hg
  clear hZ hg HT6 HY6 HK6
  go_wp2_with fail
  clear hr
  refine (flag_any).mono ?_
  rintro e Y7 ⟨v7, g7, lv7, rfl, ⟨p7, rfl, j1, j2⟩, j3, rfl, j4, hbY⟩
  have HK7 : Hid (KindAt Y7 b .flag _) := ⟨g7, ⟨p7, rfl, Nat.le_trans HT7.out.own.lt j1, j2⟩, Nat.le_trans HT7.out.own.lt j3, j4⟩
  have HY7 := hidK (HT7.out.more hbY)
  clear j1 j2 j3 j4 hbY
  obtain ⟨Z8, hr, hZ, hg⟩ := HY7.out.own.ins ⟨#[109, 111, 110, 105, 116, 111, 114, 45, 98, 101, 108, 108]⟩ (by decide) (by decide) (.agg #[.int .i64 3, .func (.func 65) #[] #[.pointer (some ⟨p7, 0, none⟩)], .bool false, .bool true, .string ⟨#[111, 110]⟩])
  obtain ⟨l8, HT8⟩ : ∃ l, Hid (Tbl w Z8 b (rowsO.take 8) l) := HY7.out.row _ rfl HK7.out hZ hg
  clear hZ hg HT7 HY7 HK7
  go_wp2_with fail
  clear hr
  obtain ⟨g8, hg8⟩ : ∃ g, Z8.heap.size = g := ⟨_, rfl⟩
  obtain ⟨X8, hX8⟩ : ∃ W, Z8.alloc (.cells #[.string ⟨#[108, 105, 110, 101]⟩, .string ⟨#[100, 111, 117, 98, 108, 101]⟩, .string ⟨#[98, 108, 97, 110, 107]⟩] 9) = W := ⟨_, rfl⟩
  have j0 : X8.heap[g8]? = some (.cells #[.string ⟨#[108, 105, 110, 101]⟩, .string ⟨#[100, 111, 117, 98, 108, 101]⟩, .string ⟨#[98, 108, 97, 110, 107]⟩] 9 (0, 0)) := by rw [← hX8, ← hg8]; exact heap_alloc_new _ _
  have HX8 := hidK (HT8.out.more (Y := X8) (by rw [← hX8]; exact (Below.refl _ _).alloc (Nat.le_refl _) _))
  have j9 : b + 1 ≤ g8 := by have := HT8.out.own.lt; omega
  rw [hg8, hX8]
  clear hX8 hg8
  refine (choice_any _ _ _).mono ?_
  rintro e Y8 ⟨v8, rfl, ⟨p8, rfl, j1, j2⟩, hbY⟩
  have HK8 : Hid (KindAt Y8 b (.cho [⟨#[108, 105, 110, 101]⟩, ⟨#[100, 111, 117, 98, 108, 101]⟩, ⟨#[98, 108, 97, 110, 107]⟩]) _) := ⟨g8, ⟨p8, rfl, Nat.le_trans HX8.out.own.lt j1, j2⟩, j9, (hbY.block g8 (lt_block j0)).trans j0⟩
  have HY8 := hidK (HX8.out.more hbY)
  clear j0 j1 j2 j9 hbY
  obtain ⟨Z9, hr, hZ, hg⟩ := HY8.out.own.ins ⟨#[112, 97, 110, 101, 45, 98, 111, 114, 100, 101, 114]⟩ (by decide) (by decide) (.agg #[.int .i64 3, .func (.func 65) #[] #[.pointer (some ⟨p8, 0, none⟩)], .bool false, .bool false, .string ⟨#[108, 105, 110, 101]⟩])
  obtain ⟨l9, HT9⟩ : ∃ l, Hid (Tbl w Z9 b (rowsO.take 9) l) := HY8.out.row _ rfl HK8.out hZ hg
  clear hZ hg HT8 HY8 HK8
  go_wp2_with fail
  clear hr
  refine (key_any).mono ?_
  rintro e Y9 ⟨rfl, hbY⟩
  have HK9 : Hid (KindAt Y9 b (.key) keyVO) := (rfl : keyVO = keyVO)
  have HY9 := hidK (HT9.out.more hbY)
  clear hbY
  obtain ⟨Z10, hr, hZ, hg⟩ := HY9.out.own.ins ⟨#[112, 114, 101, 102, 105, 120]⟩ (by decide) (by decide) (.agg #[.int .i64 2, .func (.func 67) #[] #[], .bool false, .bool false, .string ⟨#[67, 45, 98]⟩])
  obtain ⟨l10, HT10⟩ : ∃ l, Hid (Tbl w Z10 b (rowsO.take 10) l) := HY9.out.row _ rfl HK9.out hZ hg
  clear hZ hg HT9 HY9 HK9
  go_wp2_with fail
  clear hr
  refine (numberO_any 0 100).mono ?_
  rintro e Y10 ⟨v10, rfl, ⟨p10, q10, rfl, j1, j2, j3, j4⟩, hbY⟩
  have HK10 : Hid (KindAt Y10 b (.num 0 100) _) := ⟨p10, q10, rfl, Nat.le_trans HT10.out.own.lt j1, Nat.le_trans HT10.out.own.lt j2, j3, j4⟩
  have HY10 := hidK (HT10.out.more hbY)
  clear j1 j2 j3 j4 hbY
  obtain ⟨Z11, hr, hZ, hg⟩ := HY10.out.own.ins ⟨#[114, 101, 112, 101, 97, 116, 45, 116, 105, 109, 101]⟩ (by decide) (by decide) (.agg #[.int .i64 2, .func (.func 61) #[] #[.pointer (some ⟨p10, 0, none⟩), .pointer (some ⟨q10, 0, none⟩)], .bool false, .bool false, .string ⟨#[50]⟩])
  obtain ⟨l11, HT11⟩ : ∃ l, Hid (Tbl w Z11 b (rowsO.take 11) l) := HY10.out.row _ rfl HK10.out hZ hg
  clear hZ hg HT10 HY10 HK10
  go_wp2_with fail
  clear hr
  refine (flag_any).mono ?_
  rintro e Y11 ⟨v11, g11, lv11, rfl, ⟨p11, rfl, j1, j2⟩, j3, rfl, j4, hbY⟩
  have HK11 : Hid (KindAt Y11 b .flag _) := ⟨g11, ⟨p11, rfl, Nat.le_trans HT11.out.own.lt j1, j2⟩, Nat.le_trans HT11.out.own.lt j3, j4⟩
  have HY11 := hidK (HT11.out.more hbY)
  clear j1 j2 j3 j4 hbY
  obtain ⟨Z12, hr, hZ, hg⟩ := HY11.out.own.ins ⟨#[115, 99, 114, 111, 108, 108, 45, 107, 101, 101, 112]⟩ (by decide) (by decide) (.agg #[.int .i64 4, .func (.func 65) #[] #[.pointer (some ⟨p11, 0, none⟩)], .bool false, .bool true, .string ⟨#[111, 110]⟩])
  obtain ⟨l12, HT12⟩ : ∃ l, Hid (Tbl w Z12 b (rowsO.take 12) l) := HY11.out.row _ rfl HK11.out hZ hg
  clear hZ hg HT11 HY11 HK11
  go_wp2_with fail
  clear hr
  refine (flag_any).mono ?_
  rintro e Y12 ⟨v12, g12, lv12, rfl, ⟨p12, rfl, j1, j2⟩, j3, rfl, j4, hbY⟩
  have HK12 : Hid (KindAt Y12 b .flag _) := ⟨g12, ⟨p12, rfl, Nat.le_trans HT12.out.own.lt j1, j2⟩, Nat.le_trans HT12.out.own.lt j3, j4⟩
  have HY12 := hidK (HT12.out.more hbY)
  clear j1 j2 j3 j4 hbY
  obtain ⟨Z13, hr, hZ, hg⟩ := HY12.out.own.ins ⟨#[115, 101, 116, 45, 116, 105, 116, 108, 101, 115]⟩ (by decide) (by decide) (.agg #[.int .i64 2, .func (.func 65) #[] #[.pointer (some ⟨p12, 0, none⟩)], .bool false, .bool true, .string ⟨#[111, 102, 102]⟩])
  obtain ⟨l13, HT13⟩ : ∃ l, Hid (Tbl w Z13 b (rowsO.take 13) l) := HY12.out.row _ rfl HK12.out hZ hg
  clear hZ hg HT12 HY12 HK12
  go_wp2_with fail
  clear hr
  refine (flag_any).mono ?_
  rintro e Y13 ⟨v13, g13, lv13, rfl, ⟨p13, rfl, j1, j2⟩, j3, rfl, j4, hbY⟩
  have HK13 : Hid (KindAt Y13 b .flag _) := ⟨g13, ⟨p13, rfl, Nat.le_trans HT13.out.own.lt j1, j2⟩, Nat.le_trans HT13.out.own.lt j3, j4⟩
  have HY13 := hidK (HT13.out.more hbY)
  clear j1 j2 j3 j4 hbY
  obtain ⟨Z14, hr, hZ, hg⟩ := HY13.out.own.ins ⟨#[115, 116, 97, 116, 117, 115]⟩ (by decide) (by decide) (.agg #[.int .i64 2, .func (.func 65) #[] #[.pointer (some ⟨p13, 0, none⟩)], .bool false, .bool true, .string ⟨#[111, 110]⟩])
  obtain ⟨l14, HT14⟩ : ∃ l, Hid (Tbl w Z14 b (rowsO.take 14) l) := HY13.out.row _ rfl HK13.out hZ hg
  clear hZ hg HT13 HY13 HK13
  go_wp2_with fail
  clear hr
  refine (text_any).mono ?_
  rintro e Y14 ⟨rfl, hbY⟩
  have HK14 : Hid (KindAt Y14 b (.txt) txtV) := (rfl : txtV = txtV)
  have HY14 := hidK (HT14.out.more hbY)
  clear hbY
  obtain ⟨Z15, hr, hZ, hg⟩ := HY14.out.own.ins ⟨#[115, 116, 97, 116, 117, 115, 45, 108, 101, 102, 116]⟩ (by decide) (by decide) (.agg #[.int .i64 2, .func (.func 64) #[] #[], .bool true, .bool false, .string ⟨#[91, 35, 123, 115, 101, 115, 115, 105, 111, 110, 95, 110, 97, 109, 101, 125, 93]⟩])
  obtain ⟨l15, HT15⟩ : ∃ l, Hid (Tbl w Z15 b (rowsO.take 15) l) := HY14.out.row _ rfl HK14.out hZ hg
  clear hZ hg HT14 HY14 HK14
  go_wp2_with fail
  clear hr
  obtain ⟨g15, hg15⟩ : ∃ g, Z15.heap.size = g := ⟨_, rfl⟩
  obtain ⟨X15, hX15⟩ : ∃ W, Z15.alloc (.cells #[.string ⟨#[98, 111, 116, 116, 111, 109]⟩, .string ⟨#[116, 111, 112]⟩] 9) = W := ⟨_, rfl⟩
  have j0 : X15.heap[g15]? = some (.cells #[.string ⟨#[98, 111, 116, 116, 111, 109]⟩, .string ⟨#[116, 111, 112]⟩] 9 (0, 0)) := by rw [← hX15, ← hg15]; exact heap_alloc_new _ _
  have HX15 := hidK (HT15.out.more (Y := X15) (by rw [← hX15]; exact (Below.refl _ _).alloc (Nat.le_refl _) _))
  have j9 : b + 1 ≤ g15 := by have := HT15.out.own.lt; omega
  rw [hg15, hX15]
  clear hX15 hg15
  refine (choice_any _ _ _).mono ?_
  rintro e Y15 ⟨v15, rfl, ⟨p15, rfl, j1, j2⟩, hbY⟩
  have HK15 : Hid (KindAt Y15 b (.cho [⟨#[98, 111, 116, 116, 111, 109]⟩, ⟨#[116, 111, 112]⟩]) _) := ⟨g15, ⟨p15, rfl, Nat.le_trans HX15.out.own.lt j1, j2⟩, j9, (hbY.block g15 (lt_block j0)).trans j0⟩
  have HY15 := hidK (HX15.out.more hbY)
  clear j0 j1 j2 j9 hbY
  obtain ⟨Z16, hr, hZ, hg⟩ := HY15.out.own.ins ⟨#[115, 116, 97, 116, 117, 115, 45, 112, 111, 115, 105, 116, 105, 111, 110]⟩ (by decide) (by decide) (.agg #[.int .i64 2, .func (.func 65) #[] #[.pointer (some ⟨p15, 0, none⟩)], .bool false, .bool false, .string ⟨#[98, 111, 116, 116, 111, 109]⟩])
  obtain ⟨l16, HT16⟩ : ∃ l, Hid (Tbl w Z16 b (rowsO.take 16) l) := HY15.out.row _ rfl HK15.out hZ hg
  clear hZ hg HT15 HY15 HK15
  go_wp2_with fail
  clear hr
  refine (text_any).mono ?_
  rintro e Y16 ⟨rfl, hbY⟩
  have HK16 : Hid (KindAt Y16 b (.txt) txtV) := (rfl : txtV = txtV)
  have HY16 := hidK (HT16.out.more hbY)
  clear hbY
  obtain ⟨Z17, hr, hZ, hg⟩ := HY16.out.own.ins ⟨#[115, 116, 97, 116, 117, 115, 45, 114, 105, 103, 104, 116]⟩ (by decide) (by decide) (.agg #[.int .i64 2, .func (.func 64) #[] #[], .bool true, .bool false, .string ⟨#[35, 123, 119, 105, 110, 100, 111, 119, 95, 119, 105, 100, 116, 104, 125, 120, 35, 123, 119, 105, 110, 100, 111, 119, 95, 104, 101, 105, 103, 104, 116, 125]⟩])
  obtain ⟨l17, HT17⟩ : ∃ l, Hid (Tbl w Z17 b (rowsO.take 17) l) := HY16.out.row _ rfl HK16.out hZ hg
  clear hZ hg HT16 HY16 HK16
  go_wp2_with fail
  clear hr
  refine (flag_any).mono ?_
  rintro e Y17 ⟨v17, g17, lv17, rfl, ⟨p17, rfl, j1, j2⟩, j3, rfl, j4, hbY⟩
  have HK17 : Hid (KindAt Y17 b .flag _) := ⟨g17, ⟨p17, rfl, Nat.le_trans HT17.out.own.lt j1, j2⟩, Nat.le_trans HT17.out.own.lt j3, j4⟩
  have HY17 := hidK (HT17.out.more hbY)
  clear j1 j2 j3 j4 hbY
  obtain ⟨Z18, hr, hZ, hg⟩ := HY17.out.own.ins ⟨#[115, 121, 110, 99, 104, 114, 111, 110, 105, 122, 101]⟩ (by decide) (by decide) (.agg #[.int .i64 3, .func (.func 65) #[] #[.pointer (some ⟨p17, 0, none⟩)], .bool false, .bool true, .string ⟨#[111, 102, 102]⟩])
  obtain ⟨l18, HT18⟩ : ∃ l, Hid (Tbl w Z18 b (rowsO.take 18) l) := HY17.out.row _ rfl HK17.out hZ hg
  clear hZ hg HT17 HY17 HK17
  go_wp2_with fail
  clear hr
  refine (text_any).mono ?_
  rintro e Y18 ⟨rfl, hbY⟩
  have HK18 : Hid (KindAt Y18 b (.txt) txtV) := (rfl : txtV = txtV)
  have HY18 := hidK (HT18.out.more hbY)
  clear hbY
  obtain ⟨Z19, hr, hZ, hg⟩ := HY18.out.own.ins ⟨#[119, 105, 110, 100, 111, 119, 45, 99, 117, 114, 114, 101, 110, 116, 45, 102, 111, 114, 109, 97, 116]⟩ (by decide) (by decide) (.agg #[.int .i64 3, .func (.func 64) #[] #[], .bool true, .bool false, .string ⟨#[35, 123, 119, 105, 110, 100, 111, 119, 95, 105, 110, 100, 101, 120, 125, 58, 35, 123, 119, 105, 110, 100, 111, 119, 95, 110, 97, 109, 101, 125, 35, 123, 119, 105, 110, 100, 111, 119, 95, 102, 108, 97, 103, 115, 125]⟩])
  obtain ⟨l19, HT19⟩ : ∃ l, Hid (Tbl w Z19 b (rowsO.take 19) l) := HY18.out.row _ rfl HK18.out hZ hg
  clear hZ hg HT18 HY18 HK18
  go_wp2_with fail
  clear hr
  refine (text_any).mono ?_
  rintro e Y19 ⟨rfl, hbY⟩
  have HK19 : Hid (KindAt Y19 b (.txt) txtV) := (rfl : txtV = txtV)
  have HY19 := hidK (HT19.out.more hbY)
  clear hbY
  obtain ⟨Z20, hr, hZ, hg⟩ := HY19.out.own.ins ⟨#[119, 105, 110, 100, 111, 119, 45, 102, 111, 114, 109, 97, 116]⟩ (by decide) (by decide) (.agg #[.int .i64 3, .func (.func 64) #[] #[], .bool true, .bool false, .string ⟨#[35, 123, 119, 105, 110, 100, 111, 119, 95, 105, 110, 100, 101, 120, 125, 58, 35, 123, 119, 105, 110, 100, 111, 119, 95, 110, 97, 109, 101, 125, 35, 123, 119, 105, 110, 100, 111, 119, 95, 102, 108, 97, 103, 115, 125]⟩])
  obtain ⟨l20, HT20⟩ : ∃ l, Hid (Tbl w Z20 b (rowsO.take 20) l) := HY19.out.row _ rfl HK19.out hZ hg
  clear hZ hg HT19 HY19 HK19
  go_wp2_with fail
  clear hr
  refine (text_any).mono ?_
  rintro e Y20 ⟨rfl, hbY⟩
  have HK20 : Hid (KindAt Y20 b (.txt) txtV) := (rfl : txtV = txtV)
  have HY20 := hidK (HT20.out.more hbY)
  clear hbY
  obtain ⟨Z21, hr, hZ, hg⟩ := HY20.out.own.ins ⟨#[119, 111, 114, 100, 45, 115, 101, 112, 97, 114, 97, 116, 111, 114, 115]⟩ (by decide) (by decide) (.agg #[.int .i64 2, .func (.func 64) #[] #[], .bool true, .bool false, .string ⟨#[32, 45, 95, 64]⟩])
  obtain ⟨l21, HT21⟩ : ∃ l, Hid (Tbl w Z21 b (rowsO.take 21) l) := HY20.out.row _ rfl HK20.out hZ hg
  clear hZ hg HT20 HY20 HK20
  go_wp2_with fail
  clear hr
  refine (flag_any).mono ?_
  rintro e Y21 ⟨v21, g21, lv21, rfl, ⟨p21, rfl, j1, j2⟩, j3, rfl, j4, hbY⟩
  have HK21 : Hid (KindAt Y21 b .flag _) := ⟨g21, ⟨p21, rfl, Nat.le_trans HT21.out.own.lt j1, j2⟩, Nat.le_trans HT21.out.own.lt j3, j4⟩
  have HY21 := hidK (HT21.out.more hbY)
  clear j1 j2 j3 j4 hbY
  obtain ⟨Z22, hr, hZ, hg⟩ := HY21.out.own.ins ⟨#[119, 114, 97, 112, 45, 115, 101, 97, 114, 99, 104]⟩ (by decide) (by decide) (.agg #[.int .i64 4, .func (.func 65) #[] #[.pointer (some ⟨p21, 0, none⟩)], .bool false, .bool true, .string ⟨#[111, 110]⟩])
  obtain ⟨l22, HT22⟩ : ∃ l, Hid (Tbl w Z22 b (rowsO.take 22) l) := HY21.out.row _ rfl HK21.out hZ hg
  clear hZ hg HT21 HY21 HK21
  go_wp2_with fail
  clear hr
  go_ret
  exact ⟨l22, rfl, HT22.out⟩
end Go.Proofs.YtgdkpmfdpfjdjaaGreatDoor
