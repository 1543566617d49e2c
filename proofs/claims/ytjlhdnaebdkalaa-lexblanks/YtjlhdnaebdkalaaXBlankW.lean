/-
  Lines of commands: the law of blanks and remarks.
-/
import Derived.Test.YtjlhdnaebdkalaaXBlankP
namespace Go.Proofs.Ytjlhdnaebdkalaa
open Go.RowKit
set_option linter.unusedVariables false
set_option maxRecDepth 100000

def ReadsAs (s : ByteArray) (cs : List (List (List UInt8))) (p e : Nat) : Prop := ∀ W, Calls Try.prog 11 #[.string s] W fun x w' => ∃ v, x = .returned (.tuple #[v, .int .i64 (p : Int), .int .i64 (e : Int)]) ∧ SeeC w' v cs ∧ Below W.heap.size W w'
theorem reads_as {s : ByteArray} {cs : List (List (List UInt8))} {p e : Nat} (hs : s.size ≤ 140737488355328) (h : cmdsF s.data.toList = (cs, p, e)) : ReadsAs s cs p e := fun W => by
  have h1 := commands_any s W hs
  rw [h] at h1
  exact h1.mono fun x w' ⟨v, e1, e2, e3⟩ => ⟨v, e1, e2.see, e3⟩
theorem app_data (a b : ByteArray) : (a ++ b).data.toList = a.data.toList ++ b.data.toList := by rw [ByteArray.data_append, Array.toList_append]

def blankV : Array Value := #[.string ⟨#[]⟩, .string ⟨#[32]⟩, .string ⟨#[9]⟩, .string ⟨#[32, 32]⟩, .string ⟨#[59]⟩, .string ⟨#[32, 59, 32, 59, 9]⟩]

set_option maxHeartbeats 8000000 in
theorem blanks_low (s t Y : ByteArray) (ah : Int) (hah : ah < 0) (w : World) (hs : s.size ≤ 140737488355328) (hcell : blankV[1]? = some (.string Y)) (hY : Y.data.toList.all endB = true) (hY5 : Y.size ≤ 5) : Calls Try.prog 4 #[.string s, .int .i64 ah, .string t] w fun x w' => x = .returned (.bool true) ∧ Below w.heap.size w w' := by
  have HSu : Hid (∀ W, Calls Try.prog 12 #[] W fun e w' => e = .returned (.bool true) ∧ Below W.heap.size W w') := sure_true
  obtain ⟨W, hW⟩ : ∃ x, w.alloc (.cells blankV 9) = x := ⟨_, rfl⟩
  have HW : Hid (w.alloc (.cells #[.string ⟨#[]⟩, .string ⟨#[32]⟩, .string ⟨#[9]⟩, .string ⟨#[32, 32]⟩, .string ⟨#[59]⟩, .string ⟨#[32, 59, 32, 59, 9]⟩] 9) = W) := hW
  have HBW : Hid (Below w.heap.size w W) := by show Below _ _ _; rw [← hW]; exact (Below.refl _ _).alloc (Nat.le_refl _) _
  have hblk : W.heap[w.heap.size]? = some (.cells blankV 9 (0, 0)) := by rw [← hW]; exact new_at _ _
  have HCell : Hid (∀ X, Below W.heap.size W X → X.cell? ⟨w.heap.size, 1, none⟩ = some (.string Y)) := fun X hX => ((hX.cell (p := ⟨w.heap.size, 1, none⟩) (lt_block hblk)).trans (cell_at hblk 1)).trans hcell
  have hsd : s.data.toList.length = s.size := size_data s
  have hYd : Y.data.toList.length = Y.size := size_data Y
  obtain ⟨cs, p, er, hC⟩ : ∃ a b c, cmdsF s.data.toList = (a, b, c) := ⟨_, _, _, rfl⟩
  have HC : Hid (ReadsAs s cs p er) := reads_as (by omega) hC
  have dah : decide (ah < 0) = true := decide_eq_true hah
  clear hW hblk hcell
  by_cases h0 : er = 0
  · subst h0
    by_cases h8 : 8000 < s.size
    · have d8 : decide ((8000 : Int) < (s.size : Int)) = true := decide_eq_true (by omega)
      clear hC hsd hYd hY
      go_enter Try.func4, Try.ntmps4
      go_upto_region 2 with fail
      rw [HW.out]
      go_wp2_with fail
      refine (HC.out _).mono ?_
      rintro e w1 ⟨v, rfl, hv, hb1⟩
      have HB1 : Hid (Below W.heap.size W w1) := hb1
      clear hb1 hv
      go_wp2_with fail
      refine (HSu.out _).mono ?_
      rintro e w2 ⟨rfl, hb2⟩
      have HB2 : Hid (Below W.heap.size W w2) := HB1.out.trans (hb2.mono HB1.out.size)
      clear hb2
      go_wp2
      go_ret
      exact ⟨rfl, HBW.out.trans (HB2.out.mono HBW.out.size)⟩
    · have d8 : decide ((8000 : Int) < (s.size : Int)) = false := decide_eq_false (by omega)
      have HC1 : Hid (ReadsAs (Y ++ s) cs 0 0) := reads_as (by rw [ByteArray.size_append]; omega) (by rw [app_data]; exact cmds_ahead hC hY (by rw [List.length_append]; omega))
      have HSm : Hid (∀ v u X, SeeC X v cs → SeeC X u cs → Calls Try.prog 13 #[v, u] X fun e w' => e = .returned (.bool true) ∧ Below X.heap.size X w') := fun v u X h1 h2 => same_true v u cs X h1 h2 (cmds_small hC)
      obtain ⟨cs2, p2, er2, hC2⟩ : ∃ a b c, cmdsF (s ++ (⟨#[10]⟩ : ByteArray)).data.toList = (a, b, c) := ⟨_, _, _, rfl⟩
      have h10 : (s ++ (⟨#[10]⟩ : ByteArray)).size = s.size + 1 := by rw [ByteArray.size_append]; rfl
      have HC2 : Hid (ReadsAs (s ++ (⟨#[10]⟩ : ByteArray)) cs2 p2 er2) := reads_as (by omega) hC2
      have HQ : Hid (t.size = 0 ∨ (∃ h : 0 < t.size, t[0].toNat ≠ 123 ∧ t.size ≤ 100) → Hid (ReadsAs (s ++ (⟨#[32, 35]⟩ : ByteArray) ++ t) cs 0 0)) := fun hor => by
        have htd : t.data.toList.length = t.size := size_data t
        have ht1 : t.size ≤ 100 := by
          rcases hor with h | ⟨_, _, h⟩
          · omega
          · exact h
        have hhd : t.data.toList.head? ≠ some 123 := by
          rcases hor with h | ⟨hp, h, _⟩
          · rw [List.eq_nil_of_length_eq_zero (by omega : t.data.toList.length = 0)]; simp
          · have e0 := drop_at t 0 hp
            rw [List.drop_zero] at e0
            rw [e0]
            intro e
            have e1 : t[0] = 123 := by simpa using e
            exact h (by rw [e1]; rfl)
        have hz : (s ++ (⟨#[32, 35]⟩ : ByteArray) ++ t).data.toList = s.data.toList ++ (32 :: 35 :: t.data.toList) := by
          rw [app_data, app_data, List.append_assoc]; rfl
        refine reads_as (by rw [ByteArray.size_append, ByteArray.size_append, show (⟨#[32, 35]⟩ : ByteArray).size = 2 from rfl]; omega) ?_
        rw [hz]
        exact cmds_behind hC (idle_remark _ hhd) (by rw [List.length_append]; simp only [List.length_cons]; omega)
      by_cases h2 : er2 = 0
      · subst h2
        have hz : (s ++ (⟨#[10]⟩ : ByteArray) ++ Y).data.toList = (s ++ (⟨#[10]⟩ : ByteArray)).data.toList ++ Y.data.toList := app_data _ _
        have h10d : (s ++ (⟨#[10]⟩ : ByteArray)).data.toList.length = s.size + 1 := by rw [size_data]; exact h10
        have HC3 : Hid (ReadsAs (s ++ (⟨#[10]⟩ : ByteArray) ++ Y) cs2 0 0) := reads_as (by rw [ByteArray.size_append]; omega) (by
          rw [hz]
          exact cmds_behind hC2 (idle_ends _ hY) (by rw [List.length_append]; omega))
        have HSm2 : Hid (∀ v u X, SeeC X v cs2 → SeeC X u cs2 → Calls Try.prog 13 #[v, u] X fun e w' => e = .returned (.bool true) ∧ Below X.heap.size X w') := fun v u X h1 h2 => same_true v u cs2 X h1 h2 (cmds_small hC2)
        clear hC hC2 hsd hYd hY h10 hz h10d
        go_enter Try.func4, Try.ntmps4
        go_upto_region 2 with fail
        rw [HW.out]
        go_wp2_with fail
        refine (HC.out _).mono ?_
        rintro e w1 ⟨v, rfl, hv, hb1⟩
        have HB1 : Hid (Below W.heap.size W w1) := hb1
        have HV1 : Hid (SeeC w1 v cs) := hv
        clear hb1 hv
        have c1 := HCell.out w1 HB1.out
        go_wp2_with fail
        refine (HC1.out _).mono ?_
        rintro e w2 ⟨v2, rfl, hv2, hb2⟩
        have HB2 : Hid (Below W.heap.size W w2) := HB1.out.trans (hb2.mono HB1.out.size)
        have HV2 : Hid (SeeC w2 v cs) := HV1.out.below hb2
        have HU2 : Hid (SeeC w2 v2 cs) := hv2
        clear hb2 hv2 c1
        go_wp2_with fail
        refine (HSm.out _ _ _ HV2.out HU2.out).mono ?_
        rintro e w3 ⟨rfl, hb3⟩
        have HB3 : Hid (Below W.heap.size W w3) := HB2.out.trans (hb3.mono HB2.out.size)
        have HV3 : Hid (SeeC w3 v cs) := HV2.out.below hb3
        clear hb3
        go_wp2_with fail
        refine (HC2.out _).mono ?_
        rintro e w4 ⟨v4, rfl, hv4, hb4⟩
        have HB4 : Hid (Below W.heap.size W w4) := HB3.out.trans (hb4.mono HB3.out.size)
        have HV4 : Hid (SeeC w4 v cs) := HV3.out.below hb4
        have HU4 : Hid (SeeC w4 v4 cs2) := hv4
        clear hb4 hv4
        have c4 := HCell.out w4 HB4.out
        go_wp2_with fail
        refine (HC3.out _).mono ?_
        rintro e w5 ⟨v5, rfl, hv5, hb5⟩
        have HB5 : Hid (Below W.heap.size W w5) := HB4.out.trans (hb5.mono HB4.out.size)
        have HV5 : Hid (SeeC w5 v cs) := HV4.out.below hb5
        have HU5 : Hid (SeeC w5 v4 cs2) := HU4.out.below hb5
        have HX5 : Hid (SeeC w5 v5 cs2) := hv5
        clear hb5 hv5 c4
        go_wp2_with fail
        refine (HSm2.out _ _ _ HU5.out HX5.out).mono ?_
        rintro e w6 ⟨rfl, hb6⟩
        have HB6 : Hid (Below W.heap.size W w6) := HB5.out.trans (hb6.mono HB5.out.size)
        have HV6 : Hid (SeeC w6 v cs) := HV5.out.below hb6
        clear hb6
        by_cases t0 : t.size = 0
        · have HC4 := HQ.out (.inl t0)
          have dt : decide (0 < t.size) = false := decide_eq_false (by omega)
          have dt3 : ¬ 0 < t.size := by omega
          have dt2 : decide ((100 : Int) < (t.size : Int)) = false := decide_eq_false (by omega)
          clear t0
          go_wp2_with fail
          refine (HC4.out _).mono ?_
          rintro e w7 ⟨v7, rfl, hv7, hb7⟩
          have HB7 : Hid (Below W.heap.size W w7) := HB6.out.trans (hb7.mono HB6.out.size)
          have HV7 : Hid (SeeC w7 v cs) := HV6.out.below hb7
          have HU7 : Hid (SeeC w7 v7 cs) := hv7
          clear hb7 hv7
          go_wp2_with fail
          refine (HSm.out _ _ _ HV7.out HU7.out).mono ?_
          rintro e w8 ⟨rfl, hb8⟩
          have HB8 : Hid (Below W.heap.size W w8) := HB7.out.trans (hb8.mono HB7.out.size)
          clear hb8
          go_wp2_with fail
          refine (HSu.out _).mono ?_
          rintro e w9 ⟨rfl, hb9⟩
          have HB9 : Hid (Below W.heap.size W w9) := HB8.out.trans (hb9.mono HB8.out.size)
          clear hb9
          go_wp2
          go_ret
          exact ⟨rfl, HBW.out.trans (HB9.out.mono HBW.out.size)⟩
        · have tp : 0 < t.size := by omega
          have dt : decide ((0 : Int) < (t.size : Int)) = true := decide_eq_true (by omega)
          obtain ⟨k, hk⟩ : ∃ k, t[0].toNat = k := ⟨_, rfl⟩
          have htk : (t[0].toNat : Int) = (k : Int) := by rw [hk]
          by_cases k1 : k = 123
          · subst k1
            clear hk t0
            go_wp2_with fail
            refine (HSu.out _).mono ?_
            rintro e w7 ⟨rfl, hb7⟩
            have HB7 : Hid (Below W.heap.size W w7) := HB6.out.trans (hb7.mono HB6.out.size)
            clear hb7
            go_wp2
            go_ret
            exact ⟨rfl, HBW.out.trans (HB7.out.mono HBW.out.size)⟩
          · have ek : ((k : Int) == 123) = false := by
              have : (k : Int) ≠ 123 := by omega
              simpa using this
            by_cases t100 : 100 < t.size
            · have dt2 : decide ((100 : Int) < (t.size : Int)) = true := decide_eq_true (by omega)
              clear hk t0
              go_wp2_with fail
              refine (HSu.out _).mono ?_
              rintro e w7 ⟨rfl, hb7⟩
              have HB7 : Hid (Below W.heap.size W w7) := HB6.out.trans (hb7.mono HB6.out.size)
              clear hb7
              go_wp2
              go_ret
              exact ⟨rfl, HBW.out.trans (HB7.out.mono HBW.out.size)⟩
            · have dt2 : decide ((100 : Int) < (t.size : Int)) = false := decide_eq_false (by omega)
              have HC4 := HQ.out (.inr ⟨tp, by rw [hk]; exact k1, by omega⟩)
              clear hk t0
              go_wp2_with fail
              refine (HC4.out _).mono ?_
              rintro e w7 ⟨v7, rfl, hv7, hb7⟩
              have HB7 : Hid (Below W.heap.size W w7) := HB6.out.trans (hb7.mono HB6.out.size)
              have HV7 : Hid (SeeC w7 v cs) := HV6.out.below hb7
              have HU7 : Hid (SeeC w7 v7 cs) := hv7
              clear hb7 hv7
              go_wp2_with fail
              refine (HSm.out _ _ _ HV7.out HU7.out).mono ?_
              rintro e w8 ⟨rfl, hb8⟩
              have HB8 : Hid (Below W.heap.size W w8) := HB7.out.trans (hb8.mono HB7.out.size)
              clear hb8
              go_wp2_with fail
              refine (HSu.out _).mono ?_
              rintro e w9 ⟨rfl, hb9⟩
              have HB9 : Hid (Below W.heap.size W w9) := HB8.out.trans (hb9.mono HB8.out.size)
              clear hb9
              go_wp2
              go_ret
              exact ⟨rfl, HBW.out.trans (HB9.out.mono HBW.out.size)⟩
      · have e2 : ((er2 : Int) == 0) = false := by
          have : (er2 : Int) ≠ 0 := by omega
          simpa using this
        obtain ⟨cs3, p3, er3, hC3⟩ : ∃ a b c, cmdsF (s ++ (⟨#[10]⟩ : ByteArray) ++ Y).data.toList = (a, b, c) := ⟨_, _, _, rfl⟩
        have HC3 : Hid (ReadsAs (s ++ (⟨#[10]⟩ : ByteArray) ++ Y) cs3 p3 er3) := reads_as (by rw [ByteArray.size_append]; omega) hC3
        clear hC hC2 hC3 hsd hYd hY h10
        go_enter Try.func4, Try.ntmps4
        go_upto_region 2 with fail
        rw [HW.out]
        go_wp2_with fail
        refine (HC.out _).mono ?_
        rintro e w1 ⟨v, rfl, hv, hb1⟩
        have HB1 : Hid (Below W.heap.size W w1) := hb1
        have HV1 : Hid (SeeC w1 v cs) := hv
        clear hb1 hv
        have c1 := HCell.out w1 HB1.out
        go_wp2_with fail
        refine (HC1.out _).mono ?_
        rintro e w2 ⟨v2, rfl, hv2, hb2⟩
        have HB2 : Hid (Below W.heap.size W w2) := HB1.out.trans (hb2.mono HB1.out.size)
        have HV2 : Hid (SeeC w2 v cs) := HV1.out.below hb2
        have HU2 : Hid (SeeC w2 v2 cs) := hv2
        clear hb2 hv2 c1
        go_wp2_with fail
        refine (HSm.out _ _ _ HV2.out HU2.out).mono ?_
        rintro e w3 ⟨rfl, hb3⟩
        have HB3 : Hid (Below W.heap.size W w3) := HB2.out.trans (hb3.mono HB2.out.size)
        have HV3 : Hid (SeeC w3 v cs) := HV2.out.below hb3
        clear hb3
        go_wp2_with fail
        refine (HC2.out _).mono ?_
        rintro e w4 ⟨v4, rfl, hv4, hb4⟩
        have HB4 : Hid (Below W.heap.size W w4) := HB3.out.trans (hb4.mono HB3.out.size)
        have HV4 : Hid (SeeC w4 v cs) := HV3.out.below hb4
        have HU4 : Hid (SeeC w4 v4 cs2) := hv4
        clear hb4 hv4
        have c4 := HCell.out w4 HB4.out
        go_wp2_with fail
        refine (HC3.out _).mono ?_
        rintro e w5 ⟨v5, rfl, hv5, hb5⟩
        have HB5 : Hid (Below W.heap.size W w5) := HB4.out.trans (hb5.mono HB4.out.size)
        have HV5 : Hid (SeeC w5 v cs) := HV4.out.below hb5
        have HU5 : Hid (SeeC w5 v4 cs2) := HU4.out.below hb5
        clear hb5 hv5 c4
        by_cases t0 : t.size = 0
        · have HC4 := HQ.out (.inl t0)
          have dt : decide (0 < t.size) = false := decide_eq_false (by omega)
          have dt3 : ¬ 0 < t.size := by omega
          have dt2 : decide ((100 : Int) < (t.size : Int)) = false := decide_eq_false (by omega)
          clear t0
          go_wp2_with fail
          refine (HC4.out _).mono ?_
          rintro e w6 ⟨v6, rfl, hv6, hb6⟩
          have HB6 : Hid (Below W.heap.size W w6) := HB5.out.trans (hb6.mono HB5.out.size)
          have HV6 : Hid (SeeC w6 v cs) := HV5.out.below hb6
          have HU6 : Hid (SeeC w6 v6 cs) := hv6
          clear hb6 hv6
          go_wp2_with fail
          refine (HSm.out _ _ _ HV6.out HU6.out).mono ?_
          rintro e w7 ⟨rfl, hb7⟩
          have HB7 : Hid (Below W.heap.size W w7) := HB6.out.trans (hb7.mono HB6.out.size)
          clear hb7
          go_wp2_with fail
          refine (HSu.out _).mono ?_
          rintro e w8 ⟨rfl, hb8⟩
          have HB8 : Hid (Below W.heap.size W w8) := HB7.out.trans (hb8.mono HB7.out.size)
          clear hb8
          go_wp2
          go_ret
          exact ⟨rfl, HBW.out.trans (HB8.out.mono HBW.out.size)⟩
        · have tp : 0 < t.size := by omega
          have dt : decide ((0 : Int) < (t.size : Int)) = true := decide_eq_true (by omega)
          obtain ⟨k, hk⟩ : ∃ k, t[0].toNat = k := ⟨_, rfl⟩
          have htk : (t[0].toNat : Int) = (k : Int) := by rw [hk]
          by_cases k1 : k = 123
          · subst k1
            clear hk t0
            go_wp2_with fail
            refine (HSu.out _).mono ?_
            rintro e w6 ⟨rfl, hb6⟩
            have HB6 : Hid (Below W.heap.size W w6) := HB5.out.trans (hb6.mono HB5.out.size)
            clear hb6
            go_wp2
            go_ret
            exact ⟨rfl, HBW.out.trans (HB6.out.mono HBW.out.size)⟩
          · have ek : ((k : Int) == 123) = false := by
              have : (k : Int) ≠ 123 := by omega
              simpa using this
            by_cases t100 : 100 < t.size
            · have dt2 : decide ((100 : Int) < (t.size : Int)) = true := decide_eq_true (by omega)
              clear hk t0
              go_wp2_with fail
              refine (HSu.out _).mono ?_
              rintro e w6 ⟨rfl, hb6⟩
              have HB6 : Hid (Below W.heap.size W w6) := HB5.out.trans (hb6.mono HB5.out.size)
              clear hb6
              go_wp2
              go_ret
              exact ⟨rfl, HBW.out.trans (HB6.out.mono HBW.out.size)⟩
            · have dt2 : decide ((100 : Int) < (t.size : Int)) = false := decide_eq_false (by omega)
              have HC4 := HQ.out (.inr ⟨tp, by rw [hk]; exact k1, by omega⟩)
              clear hk t0
              go_wp2_with fail
              refine (HC4.out _).mono ?_
              rintro e w6 ⟨v6, rfl, hv6, hb6⟩
              have HB6 : Hid (Below W.heap.size W w6) := HB5.out.trans (hb6.mono HB5.out.size)
              have HV6 : Hid (SeeC w6 v cs) := HV5.out.below hb6
              have HU6 : Hid (SeeC w6 v6 cs) := hv6
              clear hb6 hv6
              go_wp2_with fail
              refine (HSm.out _ _ _ HV6.out HU6.out).mono ?_
              rintro e w7 ⟨rfl, hb7⟩
              have HB7 : Hid (Below W.heap.size W w7) := HB6.out.trans (hb7.mono HB6.out.size)
              clear hb7
              go_wp2_with fail
              refine (HSu.out _).mono ?_
              rintro e w8 ⟨rfl, hb8⟩
              have HB8 : Hid (Below W.heap.size W w8) := HB7.out.trans (hb8.mono HB7.out.size)
              clear hb8
              go_wp2
              go_ret
              exact ⟨rfl, HBW.out.trans (HB8.out.mono HBW.out.size)⟩
  · have e0 : ((er : Int) != 0) = true := by
      have : (er : Int) ≠ 0 := by omega
      simpa using this
    clear hC hsd hYd hY
    go_enter Try.func4, Try.ntmps4
    go_upto_region 2 with fail
    rw [HW.out]
    go_wp2_with fail
    refine (HC.out _).mono ?_
    rintro e w1 ⟨v, rfl, hv, hb1⟩
    have HB1 : Hid (Below W.heap.size W w1) := hb1
    clear hb1 hv
    go_wp2_with fail
    refine (HSu.out _).mono ?_
    rintro e w2 ⟨rfl, hb2⟩
    have HB2 : Hid (Below W.heap.size W w2) := HB1.out.trans (hb2.mono HB1.out.size)
    clear hb2
    go_wp2
    go_ret
    exact ⟨rfl, HBW.out.trans (HB2.out.mono HBW.out.size)⟩

set_option maxHeartbeats 8000000 in
theorem blanks_high (s t Y : ByteArray) (ah : Int) (hah : 6 ≤ ah) (w : World) (hs : s.size ≤ 140737488355328) (hcell : blankV[1]? = some (.string Y)) (hY : Y.data.toList.all endB = true) (hY5 : Y.size ≤ 5) : Calls Try.prog 4 #[.string s, .int .i64 ah, .string t] w fun x w' => x = .returned (.bool true) ∧ Below w.heap.size w w' := by
  have HSu : Hid (∀ W, Calls Try.prog 12 #[] W fun e w' => e = .returned (.bool true) ∧ Below W.heap.size W w') := sure_true
  obtain ⟨W, hW⟩ : ∃ x, w.alloc (.cells blankV 9) = x := ⟨_, rfl⟩
  have HW : Hid (w.alloc (.cells #[.string ⟨#[]⟩, .string ⟨#[32]⟩, .string ⟨#[9]⟩, .string ⟨#[32, 32]⟩, .string ⟨#[59]⟩, .string ⟨#[32, 59, 32, 59, 9]⟩] 9) = W) := hW
  have HBW : Hid (Below w.heap.size w W) := by show Below _ _ _; rw [← hW]; exact (Below.refl _ _).alloc (Nat.le_refl _) _
  have hblk : W.heap[w.heap.size]? = some (.cells blankV 9 (0, 0)) := by rw [← hW]; exact new_at _ _
  have HCell : Hid (∀ X, Below W.heap.size W X → X.cell? ⟨w.heap.size, 1, none⟩ = some (.string Y)) := fun X hX => ((hX.cell (p := ⟨w.heap.size, 1, none⟩) (lt_block hblk)).trans (cell_at hblk 1)).trans hcell
  have hsd : s.data.toList.length = s.size := size_data s
  have hYd : Y.data.toList.length = Y.size := size_data Y
  obtain ⟨cs, p, er, hC⟩ : ∃ a b c, cmdsF s.data.toList = (a, b, c) := ⟨_, _, _, rfl⟩
  have HC : Hid (ReadsAs s cs p er) := reads_as (by omega) hC
  have dah : decide (ah < 0) = false := decide_eq_false (by omega)
  have dah2 : decide (6 ≤ ah) = true := decide_eq_true hah
  clear hW hblk hcell
  by_cases h0 : er = 0
  · subst h0
    by_cases h8 : 8000 < s.size
    · have d8 : decide ((8000 : Int) < (s.size : Int)) = true := decide_eq_true (by omega)
      clear hC hsd hYd hY
      go_enter Try.func4, Try.ntmps4
      go_upto_region 2 with fail
      rw [HW.out]
      go_wp2_with fail
      refine (HC.out _).mono ?_
      rintro e w1 ⟨v, rfl, hv, hb1⟩
      have HB1 : Hid (Below W.heap.size W w1) := hb1
      clear hb1 hv
      go_wp2_with fail
      refine (HSu.out _).mono ?_
      rintro e w2 ⟨rfl, hb2⟩
      have HB2 : Hid (Below W.heap.size W w2) := HB1.out.trans (hb2.mono HB1.out.size)
      clear hb2
      go_wp2
      go_ret
      exact ⟨rfl, HBW.out.trans (HB2.out.mono HBW.out.size)⟩
    · have d8 : decide ((8000 : Int) < (s.size : Int)) = false := decide_eq_false (by omega)
      have HC1 : Hid (ReadsAs (Y ++ s) cs 0 0) := reads_as (by rw [ByteArray.size_append]; omega) (by rw [app_data]; exact cmds_ahead hC hY (by rw [List.length_append]; omega))
      have HSm : Hid (∀ v u X, SeeC X v cs → SeeC X u cs → Calls Try.prog 13 #[v, u] X fun e w' => e = .returned (.bool true) ∧ Below X.heap.size X w') := fun v u X h1 h2 => same_true v u cs X h1 h2 (cmds_small hC)
      obtain ⟨cs2, p2, er2, hC2⟩ : ∃ a b c, cmdsF (s ++ (⟨#[10]⟩ : ByteArray)).data.toList = (a, b, c) := ⟨_, _, _, rfl⟩
      have h10 : (s ++ (⟨#[10]⟩ : ByteArray)).size = s.size + 1 := by rw [ByteArray.size_append]; rfl
      have HC2 : Hid (ReadsAs (s ++ (⟨#[10]⟩ : ByteArray)) cs2 p2 er2) := reads_as (by omega) hC2
      have HQ : Hid (t.size = 0 ∨ (∃ h : 0 < t.size, t[0].toNat ≠ 123 ∧ t.size ≤ 100) → Hid (ReadsAs (s ++ (⟨#[32, 35]⟩ : ByteArray) ++ t) cs 0 0)) := fun hor => by
        have htd : t.data.toList.length = t.size := size_data t
        have ht1 : t.size ≤ 100 := by
          rcases hor with h | ⟨_, _, h⟩
          · omega
          · exact h
        have hhd : t.data.toList.head? ≠ some 123 := by
          rcases hor with h | ⟨hp, h, _⟩
          · rw [List.eq_nil_of_length_eq_zero (by omega : t.data.toList.length = 0)]; simp
          · have e0 := drop_at t 0 hp
            rw [List.drop_zero] at e0
            rw [e0]
            intro e
            have e1 : t[0] = 123 := by simpa using e
            exact h (by rw [e1]; rfl)
        have hz : (s ++ (⟨#[32, 35]⟩ : ByteArray) ++ t).data.toList = s.data.toList ++ (32 :: 35 :: t.data.toList) := by
          rw [app_data, app_data, List.append_assoc]; rfl
        refine reads_as (by rw [ByteArray.size_append, ByteArray.size_append, show (⟨#[32, 35]⟩ : ByteArray).size = 2 from rfl]; omega) ?_
        rw [hz]
        exact cmds_behind hC (idle_remark _ hhd) (by rw [List.length_append]; simp only [List.length_cons]; omega)
      by_cases h2 : er2 = 0
      · subst h2
        have hz : (s ++ (⟨#[10]⟩ : ByteArray) ++ Y).data.toList = (s ++ (⟨#[10]⟩ : ByteArray)).data.toList ++ Y.data.toList := app_data _ _
        have h10d : (s ++ (⟨#[10]⟩ : ByteArray)).data.toList.length = s.size + 1 := by rw [size_data]; exact h10
        have HC3 : Hid (ReadsAs (s ++ (⟨#[10]⟩ : ByteArray) ++ Y) cs2 0 0) := reads_as (by rw [ByteArray.size_append]; omega) (by
          rw [hz]
          exact cmds_behind hC2 (idle_ends _ hY) (by rw [List.length_append]; omega))
        have HSm2 : Hid (∀ v u X, SeeC X v cs2 → SeeC X u cs2 → Calls Try.prog 13 #[v, u] X fun e w' => e = .returned (.bool true) ∧ Below X.heap.size X w') := fun v u X h1 h2 => same_true v u cs2 X h1 h2 (cmds_small hC2)
        clear hC hC2 hsd hYd hY h10 hz h10d
        go_enter Try.func4, Try.ntmps4
        go_upto_region 2 with fail
        rw [HW.out]
        go_wp2_with fail
        refine (HC.out _).mono ?_
        rintro e w1 ⟨v, rfl, hv, hb1⟩
        have HB1 : Hid (Below W.heap.size W w1) := hb1
        have HV1 : Hid (SeeC w1 v cs) := hv
        clear hb1 hv
        have c1 := HCell.out w1 HB1.out
        go_wp2_with fail
        refine (HC1.out _).mono ?_
        rintro e w2 ⟨v2, rfl, hv2, hb2⟩
        have HB2 : Hid (Below W.heap.size W w2) := HB1.out.trans (hb2.mono HB1.out.size)
        have HV2 : Hid (SeeC w2 v cs) := HV1.out.below hb2
        have HU2 : Hid (SeeC w2 v2 cs) := hv2
        clear hb2 hv2 c1
        go_wp2_with fail
        refine (HSm.out _ _ _ HV2.out HU2.out).mono ?_
        rintro e w3 ⟨rfl, hb3⟩
        have HB3 : Hid (Below W.heap.size W w3) := HB2.out.trans (hb3.mono HB2.out.size)
        have HV3 : Hid (SeeC w3 v cs) := HV2.out.below hb3
        clear hb3
        go_wp2_with fail
        refine (HC2.out _).mono ?_
        rintro e w4 ⟨v4, rfl, hv4, hb4⟩
        have HB4 : Hid (Below W.heap.size W w4) := HB3.out.trans (hb4.mono HB3.out.size)
        have HV4 : Hid (SeeC w4 v cs) := HV3.out.below hb4
        have HU4 : Hid (SeeC w4 v4 cs2) := hv4
        clear hb4 hv4
        have c4 := HCell.out w4 HB4.out
        go_wp2_with fail
        refine (HC3.out _).mono ?_
        rintro e w5 ⟨v5, rfl, hv5, hb5⟩
        have HB5 : Hid (Below W.heap.size W w5) := HB4.out.trans (hb5.mono HB4.out.size)
        have HV5 : Hid (SeeC w5 v cs) := HV4.out.below hb5
        have HU5 : Hid (SeeC w5 v4 cs2) := HU4.out.below hb5
        have HX5 : Hid (SeeC w5 v5 cs2) := hv5
        clear hb5 hv5 c4
        go_wp2_with fail
        refine (HSm2.out _ _ _ HU5.out HX5.out).mono ?_
        rintro e w6 ⟨rfl, hb6⟩
        have HB6 : Hid (Below W.heap.size W w6) := HB5.out.trans (hb6.mono HB5.out.size)
        have HV6 : Hid (SeeC w6 v cs) := HV5.out.below hb6
        clear hb6
        by_cases t0 : t.size = 0
        · have HC4 := HQ.out (.inl t0)
          have dt : decide (0 < t.size) = false := decide_eq_false (by omega)
          have dt3 : ¬ 0 < t.size := by omega
          have dt2 : decide ((100 : Int) < (t.size : Int)) = false := decide_eq_false (by omega)
          clear t0
          go_wp2_with fail
          refine (HC4.out _).mono ?_
          rintro e w7 ⟨v7, rfl, hv7, hb7⟩
          have HB7 : Hid (Below W.heap.size W w7) := HB6.out.trans (hb7.mono HB6.out.size)
          have HV7 : Hid (SeeC w7 v cs) := HV6.out.below hb7
          have HU7 : Hid (SeeC w7 v7 cs) := hv7
          clear hb7 hv7
          go_wp2_with fail
          refine (HSm.out _ _ _ HV7.out HU7.out).mono ?_
          rintro e w8 ⟨rfl, hb8⟩
          have HB8 : Hid (Below W.heap.size W w8) := HB7.out.trans (hb8.mono HB7.out.size)
          clear hb8
          go_wp2_with fail
          refine (HSu.out _).mono ?_
          rintro e w9 ⟨rfl, hb9⟩
          have HB9 : Hid (Below W.heap.size W w9) := HB8.out.trans (hb9.mono HB8.out.size)
          clear hb9
          go_wp2
          go_ret
          exact ⟨rfl, HBW.out.trans (HB9.out.mono HBW.out.size)⟩
        · have tp : 0 < t.size := by omega
          have dt : decide ((0 : Int) < (t.size : Int)) = true := decide_eq_true (by omega)
          obtain ⟨k, hk⟩ : ∃ k, t[0].toNat = k := ⟨_, rfl⟩
          have htk : (t[0].toNat : Int) = (k : Int) := by rw [hk]
          by_cases k1 : k = 123
          · subst k1
            clear hk t0
            go_wp2_with fail
            refine (HSu.out _).mono ?_
            rintro e w7 ⟨rfl, hb7⟩
            have HB7 : Hid (Below W.heap.size W w7) := HB6.out.trans (hb7.mono HB6.out.size)
            clear hb7
            go_wp2
            go_ret
            exact ⟨rfl, HBW.out.trans (HB7.out.mono HBW.out.size)⟩
          · have ek : ((k : Int) == 123) = false := by
              have : (k : Int) ≠ 123 := by omega
              simpa using this
            by_cases t100 : 100 < t.size
            · have dt2 : decide ((100 : Int) < (t.size : Int)) = true := decide_eq_true (by omega)
              clear hk t0
              go_wp2_with fail
              refine (HSu.out _).mono ?_
              rintro e w7 ⟨rfl, hb7⟩
              have HB7 : Hid (Below W.heap.size W w7) := HB6.out.trans (hb7.mono HB6.out.size)
              clear hb7
              go_wp2
              go_ret
              exact ⟨rfl, HBW.out.trans (HB7.out.mono HBW.out.size)⟩
            · have dt2 : decide ((100 : Int) < (t.size : Int)) = false := decide_eq_false (by omega)
              have HC4 := HQ.out (.inr ⟨tp, by rw [hk]; exact k1, by omega⟩)
              clear hk t0
              go_wp2_with fail
              refine (HC4.out _).mono ?_
              rintro e w7 ⟨v7, rfl, hv7, hb7⟩
              have HB7 : Hid (Below W.heap.size W w7) := HB6.out.trans (hb7.mono HB6.out.size)
              have HV7 : Hid (SeeC w7 v cs) := HV6.out.below hb7
              have HU7 : Hid (SeeC w7 v7 cs) := hv7
              clear hb7 hv7
              go_wp2_with fail
              refine (HSm.out _ _ _ HV7.out HU7.out).mono ?_
              rintro e w8 ⟨rfl, hb8⟩
              have HB8 : Hid (Below W.heap.size W w8) := HB7.out.trans (hb8.mono HB7.out.size)
              clear hb8
              go_wp2_with fail
              refine (HSu.out _).mono ?_
              rintro e w9 ⟨rfl, hb9⟩
              have HB9 : Hid (Below W.heap.size W w9) := HB8.out.trans (hb9.mono HB8.out.size)
              clear hb9
              go_wp2
              go_ret
              exact ⟨rfl, HBW.out.trans (HB9.out.mono HBW.out.size)⟩
      · have e2 : ((er2 : Int) == 0) = false := by
          have : (er2 : Int) ≠ 0 := by omega
          simpa using this
        obtain ⟨cs3, p3, er3, hC3⟩ : ∃ a b c, cmdsF (s ++ (⟨#[10]⟩ : ByteArray) ++ Y).data.toList = (a, b, c) := ⟨_, _, _, rfl⟩
        have HC3 : Hid (ReadsAs (s ++ (⟨#[10]⟩ : ByteArray) ++ Y) cs3 p3 er3) := reads_as (by rw [ByteArray.size_append]; omega) hC3
        clear hC hC2 hC3 hsd hYd hY h10
        go_enter Try.func4, Try.ntmps4
        go_upto_region 2 with fail
        rw [HW.out]
        go_wp2_with fail
        refine (HC.out _).mono ?_
        rintro e w1 ⟨v, rfl, hv, hb1⟩
        have HB1 : Hid (Below W.heap.size W w1) := hb1
        have HV1 : Hid (SeeC w1 v cs) := hv
        clear hb1 hv
        have c1 := HCell.out w1 HB1.out
        go_wp2_with fail
        refine (HC1.out _).mono ?_
        rintro e w2 ⟨v2, rfl, hv2, hb2⟩
        have HB2 : Hid (Below W.heap.size W w2) := HB1.out.trans (hb2.mono HB1.out.size)
        have HV2 : Hid (SeeC w2 v cs) := HV1.out.below hb2
        have HU2 : Hid (SeeC w2 v2 cs) := hv2
        clear hb2 hv2 c1
        go_wp2_with fail
        refine (HSm.out _ _ _ HV2.out HU2.out).mono ?_
        rintro e w3 ⟨rfl, hb3⟩
        have HB3 : Hid (Below W.heap.size W w3) := HB2.out.trans (hb3.mono HB2.out.size)
        have HV3 : Hid (SeeC w3 v cs) := HV2.out.below hb3
        clear hb3
        go_wp2_with fail
        refine (HC2.out _).mono ?_
        rintro e w4 ⟨v4, rfl, hv4, hb4⟩
        have HB4 : Hid (Below W.heap.size W w4) := HB3.out.trans (hb4.mono HB3.out.size)
        have HV4 : Hid (SeeC w4 v cs) := HV3.out.below hb4
        have HU4 : Hid (SeeC w4 v4 cs2) := hv4
        clear hb4 hv4
        have c4 := HCell.out w4 HB4.out
        go_wp2_with fail
        refine (HC3.out _).mono ?_
        rintro e w5 ⟨v5, rfl, hv5, hb5⟩
        have HB5 : Hid (Below W.heap.size W w5) := HB4.out.trans (hb5.mono HB4.out.size)
        have HV5 : Hid (SeeC w5 v cs) := HV4.out.below hb5
        have HU5 : Hid (SeeC w5 v4 cs2) := HU4.out.below hb5
        clear hb5 hv5 c4
        by_cases t0 : t.size = 0
        · have HC4 := HQ.out (.inl t0)
          have dt : decide (0 < t.size) = false := decide_eq_false (by omega)
          have dt3 : ¬ 0 < t.size := by omega
          have dt2 : decide ((100 : Int) < (t.size : Int)) = false := decide_eq_false (by omega)
          clear t0
          go_wp2_with fail
          refine (HC4.out _).mono ?_
          rintro e w6 ⟨v6, rfl, hv6, hb6⟩
          have HB6 : Hid (Below W.heap.size W w6) := HB5.out.trans (hb6.mono HB5.out.size)
          have HV6 : Hid (SeeC w6 v cs) := HV5.out.below hb6
          have HU6 : Hid (SeeC w6 v6 cs) := hv6
          clear hb6 hv6
          go_wp2_with fail
          refine (HSm.out _ _ _ HV6.out HU6.out).mono ?_
          rintro e w7 ⟨rfl, hb7⟩
          have HB7 : Hid (Below W.heap.size W w7) := HB6.out.trans (hb7.mono HB6.out.size)
          clear hb7
          go_wp2_with fail
          refine (HSu.out _).mono ?_
          rintro e w8 ⟨rfl, hb8⟩
          have HB8 : Hid (Below W.heap.size W w8) := HB7.out.trans (hb8.mono HB7.out.size)
          clear hb8
          go_wp2
          go_ret
          exact ⟨rfl, HBW.out.trans (HB8.out.mono HBW.out.size)⟩
        · have tp : 0 < t.size := by omega
          have dt : decide ((0 : Int) < (t.size : Int)) = true := decide_eq_true (by omega)
          obtain ⟨k, hk⟩ : ∃ k, t[0].toNat = k := ⟨_, rfl⟩
          have htk : (t[0].toNat : Int) = (k : Int) := by rw [hk]
          by_cases k1 : k = 123
          · subst k1
            clear hk t0
            go_wp2_with fail
            refine (HSu.out _).mono ?_
            rintro e w6 ⟨rfl, hb6⟩
            have HB6 : Hid (Below W.heap.size W w6) := HB5.out.trans (hb6.mono HB5.out.size)
            clear hb6
            go_wp2
            go_ret
            exact ⟨rfl, HBW.out.trans (HB6.out.mono HBW.out.size)⟩
          · have ek : ((k : Int) == 123) = false := by
              have : (k : Int) ≠ 123 := by omega
              simpa using this
            by_cases t100 : 100 < t.size
            · have dt2 : decide ((100 : Int) < (t.size : Int)) = true := decide_eq_true (by omega)
              clear hk t0
              go_wp2_with fail
              refine (HSu.out _).mono ?_
              rintro e w6 ⟨rfl, hb6⟩
              have HB6 : Hid (Below W.heap.size W w6) := HB5.out.trans (hb6.mono HB5.out.size)
              clear hb6
              go_wp2
              go_ret
              exact ⟨rfl, HBW.out.trans (HB6.out.mono HBW.out.size)⟩
            · have dt2 : decide ((100 : Int) < (t.size : Int)) = false := decide_eq_false (by omega)
              have HC4 := HQ.out (.inr ⟨tp, by rw [hk]; exact k1, by omega⟩)
              clear hk t0
              go_wp2_with fail
              refine (HC4.out _).mono ?_
              rintro e w6 ⟨v6, rfl, hv6, hb6⟩
              have HB6 : Hid (Below W.heap.size W w6) := HB5.out.trans (hb6.mono HB5.out.size)
              have HV6 : Hid (SeeC w6 v cs) := HV5.out.below hb6
              have HU6 : Hid (SeeC w6 v6 cs) := hv6
              clear hb6 hv6
              go_wp2_with fail
              refine (HSm.out _ _ _ HV6.out HU6.out).mono ?_
              rintro e w7 ⟨rfl, hb7⟩
              have HB7 : Hid (Below W.heap.size W w7) := HB6.out.trans (hb7.mono HB6.out.size)
              clear hb7
              go_wp2_with fail
              refine (HSu.out _).mono ?_
              rintro e w8 ⟨rfl, hb8⟩
              have HB8 : Hid (Below W.heap.size W w8) := HB7.out.trans (hb8.mono HB7.out.size)
              clear hb8
              go_wp2
              go_ret
              exact ⟨rfl, HBW.out.trans (HB8.out.mono HBW.out.size)⟩
  · have e0 : ((er : Int) != 0) = true := by
      have : (er : Int) ≠ 0 := by omega
      simpa using this
    clear hC hsd hYd hY
    go_enter Try.func4, Try.ntmps4
    go_upto_region 2 with fail
    rw [HW.out]
    go_wp2_with fail
    refine (HC.out _).mono ?_
    rintro e w1 ⟨v, rfl, hv, hb1⟩
    have HB1 : Hid (Below W.heap.size W w1) := hb1
    clear hb1 hv
    go_wp2_with fail
    refine (HSu.out _).mono ?_
    rintro e w2 ⟨rfl, hb2⟩
    have HB2 : Hid (Below W.heap.size W w2) := HB1.out.trans (hb2.mono HB1.out.size)
    clear hb2
    go_wp2
    go_ret
    exact ⟨rfl, HBW.out.trans (HB2.out.mono HBW.out.size)⟩

set_option maxHeartbeats 8000000 in
theorem blanks_mid (s t Y : ByteArray) (j : Nat) (hj : j < 6) (w : World) (hs : s.size ≤ 140737488355328) (hcell : blankV[j]? = some (.string Y)) (hY : Y.data.toList.all endB = true) (hY5 : Y.size ≤ 5) : Calls Try.prog 4 #[.string s, .int .i64 j, .string t] w fun x w' => x = .returned (.bool true) ∧ Below w.heap.size w w' := by
  have HSu : Hid (∀ W, Calls Try.prog 12 #[] W fun e w' => e = .returned (.bool true) ∧ Below W.heap.size W w') := sure_true
  obtain ⟨W, hW⟩ : ∃ x, w.alloc (.cells blankV 9) = x := ⟨_, rfl⟩
  have HW : Hid (w.alloc (.cells #[.string ⟨#[]⟩, .string ⟨#[32]⟩, .string ⟨#[9]⟩, .string ⟨#[32, 32]⟩, .string ⟨#[59]⟩, .string ⟨#[32, 59, 32, 59, 9]⟩] 9) = W) := hW
  have HBW : Hid (Below w.heap.size w W) := by show Below _ _ _; rw [← hW]; exact (Below.refl _ _).alloc (Nat.le_refl _) _
  have hblk : W.heap[w.heap.size]? = some (.cells blankV 9 (0, 0)) := by rw [← hW]; exact new_at _ _
  have HCell : Hid (∀ X, Below W.heap.size W X → X.cell? ⟨w.heap.size, j, none⟩ = some (.string Y)) := fun X hX => ((hX.cell (p := ⟨w.heap.size, j, none⟩) (lt_block hblk)).trans (cell_at hblk j)).trans hcell
  have hsd : s.data.toList.length = s.size := size_data s
  have hYd : Y.data.toList.length = Y.size := size_data Y
  obtain ⟨cs, p, er, hC⟩ : ∃ a b c, cmdsF s.data.toList = (a, b, c) := ⟨_, _, _, rfl⟩
  have HC : Hid (ReadsAs s cs p er) := reads_as (by omega) hC
  have dah : decide ((j : Int) < 0) = false := decide_eq_false (by omega)
  have dah2 : decide ((6 : Int) ≤ (j : Int)) = false := decide_eq_false (by omega)
  clear hW hblk hcell
  by_cases h0 : er = 0
  · subst h0
    by_cases h8 : 8000 < s.size
    · have d8 : decide ((8000 : Int) < (s.size : Int)) = true := decide_eq_true (by omega)
      clear hC hsd hYd hY
      go_enter Try.func4, Try.ntmps4
      go_upto_region 2 with fail
      rw [HW.out]
      go_wp2_with fail
      refine (HC.out _).mono ?_
      rintro e w1 ⟨v, rfl, hv, hb1⟩
      have HB1 : Hid (Below W.heap.size W w1) := hb1
      clear hb1 hv
      go_wp2_with fail
      refine (HSu.out _).mono ?_
      rintro e w2 ⟨rfl, hb2⟩
      have HB2 : Hid (Below W.heap.size W w2) := HB1.out.trans (hb2.mono HB1.out.size)
      clear hb2
      go_wp2
      go_ret
      exact ⟨rfl, HBW.out.trans (HB2.out.mono HBW.out.size)⟩
    · have d8 : decide ((8000 : Int) < (s.size : Int)) = false := decide_eq_false (by omega)
      have HC1 : Hid (ReadsAs (Y ++ s) cs 0 0) := reads_as (by rw [ByteArray.size_append]; omega) (by rw [app_data]; exact cmds_ahead hC hY (by rw [List.length_append]; omega))
      have HSm : Hid (∀ v u X, SeeC X v cs → SeeC X u cs → Calls Try.prog 13 #[v, u] X fun e w' => e = .returned (.bool true) ∧ Below X.heap.size X w') := fun v u X h1 h2 => same_true v u cs X h1 h2 (cmds_small hC)
      obtain ⟨cs2, p2, er2, hC2⟩ : ∃ a b c, cmdsF (s ++ (⟨#[10]⟩ : ByteArray)).data.toList = (a, b, c) := ⟨_, _, _, rfl⟩
      have h10 : (s ++ (⟨#[10]⟩ : ByteArray)).size = s.size + 1 := by rw [ByteArray.size_append]; rfl
      have HC2 : Hid (ReadsAs (s ++ (⟨#[10]⟩ : ByteArray)) cs2 p2 er2) := reads_as (by omega) hC2
      have HQ : Hid (t.size = 0 ∨ (∃ h : 0 < t.size, t[0].toNat ≠ 123 ∧ t.size ≤ 100) → Hid (ReadsAs (s ++ (⟨#[32, 35]⟩ : ByteArray) ++ t) cs 0 0)) := fun hor => by
        have htd : t.data.toList.length = t.size := size_data t
        have ht1 : t.size ≤ 100 := by
          rcases hor with h | ⟨_, _, h⟩
          · omega
          · exact h
        have hhd : t.data.toList.head? ≠ some 123 := by
          rcases hor with h | ⟨hp, h, _⟩
          · rw [List.eq_nil_of_length_eq_zero (by omega : t.data.toList.length = 0)]; simp
          · have e0 := drop_at t 0 hp
            rw [List.drop_zero] at e0
            rw [e0]
            intro e
            have e1 : t[0] = 123 := by simpa using e
            exact h (by rw [e1]; rfl)
        have hz : (s ++ (⟨#[32, 35]⟩ : ByteArray) ++ t).data.toList = s.data.toList ++ (32 :: 35 :: t.data.toList) := by
          rw [app_data, app_data, List.append_assoc]; rfl
        refine reads_as (by rw [ByteArray.size_append, ByteArray.size_append, show (⟨#[32, 35]⟩ : ByteArray).size = 2 from rfl]; omega) ?_
        rw [hz]
        exact cmds_behind hC (idle_remark _ hhd) (by rw [List.length_append]; simp only [List.length_cons]; omega)
      by_cases h2 : er2 = 0
      · subst h2
        have hz : (s ++ (⟨#[10]⟩ : ByteArray) ++ Y).data.toList = (s ++ (⟨#[10]⟩ : ByteArray)).data.toList ++ Y.data.toList := app_data _ _
        have h10d : (s ++ (⟨#[10]⟩ : ByteArray)).data.toList.length = s.size + 1 := by rw [size_data]; exact h10
        have HC3 : Hid (ReadsAs (s ++ (⟨#[10]⟩ : ByteArray) ++ Y) cs2 0 0) := reads_as (by rw [ByteArray.size_append]; omega) (by
          rw [hz]
          exact cmds_behind hC2 (idle_ends _ hY) (by rw [List.length_append]; omega))
        have HSm2 : Hid (∀ v u X, SeeC X v cs2 → SeeC X u cs2 → Calls Try.prog 13 #[v, u] X fun e w' => e = .returned (.bool true) ∧ Below X.heap.size X w') := fun v u X h1 h2 => same_true v u cs2 X h1 h2 (cmds_small hC2)
        clear hC hC2 hsd hYd hY h10 hz h10d
        go_enter Try.func4, Try.ntmps4
        go_upto_region 2 with fail
        rw [HW.out]
        go_wp2_with fail
        refine (HC.out _).mono ?_
        rintro e w1 ⟨v, rfl, hv, hb1⟩
        have HB1 : Hid (Below W.heap.size W w1) := hb1
        have HV1 : Hid (SeeC w1 v cs) := hv
        clear hb1 hv
        have c1 := HCell.out w1 HB1.out
        go_wp2_with fail
        refine (HC1.out _).mono ?_
        rintro e w2 ⟨v2, rfl, hv2, hb2⟩
        have HB2 : Hid (Below W.heap.size W w2) := HB1.out.trans (hb2.mono HB1.out.size)
        have HV2 : Hid (SeeC w2 v cs) := HV1.out.below hb2
        have HU2 : Hid (SeeC w2 v2 cs) := hv2
        clear hb2 hv2 c1
        go_wp2_with fail
        refine (HSm.out _ _ _ HV2.out HU2.out).mono ?_
        rintro e w3 ⟨rfl, hb3⟩
        have HB3 : Hid (Below W.heap.size W w3) := HB2.out.trans (hb3.mono HB2.out.size)
        have HV3 : Hid (SeeC w3 v cs) := HV2.out.below hb3
        clear hb3
        go_wp2_with fail
        refine (HC2.out _).mono ?_
        rintro e w4 ⟨v4, rfl, hv4, hb4⟩
        have HB4 : Hid (Below W.heap.size W w4) := HB3.out.trans (hb4.mono HB3.out.size)
        have HV4 : Hid (SeeC w4 v cs) := HV3.out.below hb4
        have HU4 : Hid (SeeC w4 v4 cs2) := hv4
        clear hb4 hv4
        have c4 := HCell.out w4 HB4.out
        go_wp2_with fail
        refine (HC3.out _).mono ?_
        rintro e w5 ⟨v5, rfl, hv5, hb5⟩
        have HB5 : Hid (Below W.heap.size W w5) := HB4.out.trans (hb5.mono HB4.out.size)
        have HV5 : Hid (SeeC w5 v cs) := HV4.out.below hb5
        have HU5 : Hid (SeeC w5 v4 cs2) := HU4.out.below hb5
        have HX5 : Hid (SeeC w5 v5 cs2) := hv5
        clear hb5 hv5 c4
        go_wp2_with fail
        refine (HSm2.out _ _ _ HU5.out HX5.out).mono ?_
        rintro e w6 ⟨rfl, hb6⟩
        have HB6 : Hid (Below W.heap.size W w6) := HB5.out.trans (hb6.mono HB5.out.size)
        have HV6 : Hid (SeeC w6 v cs) := HV5.out.below hb6
        clear hb6
        by_cases t0 : t.size = 0
        · have HC4 := HQ.out (.inl t0)
          have dt : decide (0 < t.size) = false := decide_eq_false (by omega)
          have dt3 : ¬ 0 < t.size := by omega
          have dt2 : decide ((100 : Int) < (t.size : Int)) = false := decide_eq_false (by omega)
          clear t0
          go_wp2_with fail
          refine (HC4.out _).mono ?_
          rintro e w7 ⟨v7, rfl, hv7, hb7⟩
          have HB7 : Hid (Below W.heap.size W w7) := HB6.out.trans (hb7.mono HB6.out.size)
          have HV7 : Hid (SeeC w7 v cs) := HV6.out.below hb7
          have HU7 : Hid (SeeC w7 v7 cs) := hv7
          clear hb7 hv7
          go_wp2_with fail
          refine (HSm.out _ _ _ HV7.out HU7.out).mono ?_
          rintro e w8 ⟨rfl, hb8⟩
          have HB8 : Hid (Below W.heap.size W w8) := HB7.out.trans (hb8.mono HB7.out.size)
          clear hb8
          go_wp2_with fail
          refine (HSu.out _).mono ?_
          rintro e w9 ⟨rfl, hb9⟩
          have HB9 : Hid (Below W.heap.size W w9) := HB8.out.trans (hb9.mono HB8.out.size)
          clear hb9
          go_wp2
          go_ret
          exact ⟨rfl, HBW.out.trans (HB9.out.mono HBW.out.size)⟩
        · have tp : 0 < t.size := by omega
          have dt : decide ((0 : Int) < (t.size : Int)) = true := decide_eq_true (by omega)
          obtain ⟨k, hk⟩ : ∃ k, t[0].toNat = k := ⟨_, rfl⟩
          have htk : (t[0].toNat : Int) = (k : Int) := by rw [hk]
          by_cases k1 : k = 123
          · subst k1
            clear hk t0
            go_wp2_with fail
            refine (HSu.out _).mono ?_
            rintro e w7 ⟨rfl, hb7⟩
            have HB7 : Hid (Below W.heap.size W w7) := HB6.out.trans (hb7.mono HB6.out.size)
            clear hb7
            go_wp2
            go_ret
            exact ⟨rfl, HBW.out.trans (HB7.out.mono HBW.out.size)⟩
          · have ek : ((k : Int) == 123) = false := by
              have : (k : Int) ≠ 123 := by omega
              simpa using this
            by_cases t100 : 100 < t.size
            · have dt2 : decide ((100 : Int) < (t.size : Int)) = true := decide_eq_true (by omega)
              clear hk t0
              go_wp2_with fail
              refine (HSu.out _).mono ?_
              rintro e w7 ⟨rfl, hb7⟩
              have HB7 : Hid (Below W.heap.size W w7) := HB6.out.trans (hb7.mono HB6.out.size)
              clear hb7
              go_wp2
              go_ret
              exact ⟨rfl, HBW.out.trans (HB7.out.mono HBW.out.size)⟩
            · have dt2 : decide ((100 : Int) < (t.size : Int)) = false := decide_eq_false (by omega)
              have HC4 := HQ.out (.inr ⟨tp, by rw [hk]; exact k1, by omega⟩)
              clear hk t0
              go_wp2_with fail
              refine (HC4.out _).mono ?_
              rintro e w7 ⟨v7, rfl, hv7, hb7⟩
              have HB7 : Hid (Below W.heap.size W w7) := HB6.out.trans (hb7.mono HB6.out.size)
              have HV7 : Hid (SeeC w7 v cs) := HV6.out.below hb7
              have HU7 : Hid (SeeC w7 v7 cs) := hv7
              clear hb7 hv7
              go_wp2_with fail
              refine (HSm.out _ _ _ HV7.out HU7.out).mono ?_
              rintro e w8 ⟨rfl, hb8⟩
              have HB8 : Hid (Below W.heap.size W w8) := HB7.out.trans (hb8.mono HB7.out.size)
              clear hb8
              go_wp2_with fail
              refine (HSu.out _).mono ?_
              rintro e w9 ⟨rfl, hb9⟩
              have HB9 : Hid (Below W.heap.size W w9) := HB8.out.trans (hb9.mono HB8.out.size)
              clear hb9
              go_wp2
              go_ret
              exact ⟨rfl, HBW.out.trans (HB9.out.mono HBW.out.size)⟩
      · have e2 : ((er2 : Int) == 0) = false := by
          have : (er2 : Int) ≠ 0 := by omega
          simpa using this
        obtain ⟨cs3, p3, er3, hC3⟩ : ∃ a b c, cmdsF (s ++ (⟨#[10]⟩ : ByteArray) ++ Y).data.toList = (a, b, c) := ⟨_, _, _, rfl⟩
        have HC3 : Hid (ReadsAs (s ++ (⟨#[10]⟩ : ByteArray) ++ Y) cs3 p3 er3) := reads_as (by rw [ByteArray.size_append]; omega) hC3
        clear hC hC2 hC3 hsd hYd hY h10
        go_enter Try.func4, Try.ntmps4
        go_upto_region 2 with fail
        rw [HW.out]
        go_wp2_with fail
        refine (HC.out _).mono ?_
        rintro e w1 ⟨v, rfl, hv, hb1⟩
        have HB1 : Hid (Below W.heap.size W w1) := hb1
        have HV1 : Hid (SeeC w1 v cs) := hv
        clear hb1 hv
        have c1 := HCell.out w1 HB1.out
        go_wp2_with fail
        refine (HC1.out _).mono ?_
        rintro e w2 ⟨v2, rfl, hv2, hb2⟩
        have HB2 : Hid (Below W.heap.size W w2) := HB1.out.trans (hb2.mono HB1.out.size)
        have HV2 : Hid (SeeC w2 v cs) := HV1.out.below hb2
        have HU2 : Hid (SeeC w2 v2 cs) := hv2
        clear hb2 hv2 c1
        go_wp2_with fail
        refine (HSm.out _ _ _ HV2.out HU2.out).mono ?_
        rintro e w3 ⟨rfl, hb3⟩
        have HB3 : Hid (Below W.heap.size W w3) := HB2.out.trans (hb3.mono HB2.out.size)
        have HV3 : Hid (SeeC w3 v cs) := HV2.out.below hb3
        clear hb3
        go_wp2_with fail
        refine (HC2.out _).mono ?_
        rintro e w4 ⟨v4, rfl, hv4, hb4⟩
        have HB4 : Hid (Below W.heap.size W w4) := HB3.out.trans (hb4.mono HB3.out.size)
        have HV4 : Hid (SeeC w4 v cs) := HV3.out.below hb4
        have HU4 : Hid (SeeC w4 v4 cs2) := hv4
        clear hb4 hv4
        have c4 := HCell.out w4 HB4.out
        go_wp2_with fail
        refine (HC3.out _).mono ?_
        rintro e w5 ⟨v5, rfl, hv5, hb5⟩
        have HB5 : Hid (Below W.heap.size W w5) := HB4.out.trans (hb5.mono HB4.out.size)
        have HV5 : Hid (SeeC w5 v cs) := HV4.out.below hb5
        have HU5 : Hid (SeeC w5 v4 cs2) := HU4.out.below hb5
        clear hb5 hv5 c4
        by_cases t0 : t.size = 0
        · have HC4 := HQ.out (.inl t0)
          have dt : decide (0 < t.size) = false := decide_eq_false (by omega)
          have dt3 : ¬ 0 < t.size := by omega
          have dt2 : decide ((100 : Int) < (t.size : Int)) = false := decide_eq_false (by omega)
          clear t0
          go_wp2_with fail
          refine (HC4.out _).mono ?_
          rintro e w6 ⟨v6, rfl, hv6, hb6⟩
          have HB6 : Hid (Below W.heap.size W w6) := HB5.out.trans (hb6.mono HB5.out.size)
          have HV6 : Hid (SeeC w6 v cs) := HV5.out.below hb6
          have HU6 : Hid (SeeC w6 v6 cs) := hv6
          clear hb6 hv6
          go_wp2_with fail
          refine (HSm.out _ _ _ HV6.out HU6.out).mono ?_
          rintro e w7 ⟨rfl, hb7⟩
          have HB7 : Hid (Below W.heap.size W w7) := HB6.out.trans (hb7.mono HB6.out.size)
          clear hb7
          go_wp2_with fail
          refine (HSu.out _).mono ?_
          rintro e w8 ⟨rfl, hb8⟩
          have HB8 : Hid (Below W.heap.size W w8) := HB7.out.trans (hb8.mono HB7.out.size)
          clear hb8
          go_wp2
          go_ret
          exact ⟨rfl, HBW.out.trans (HB8.out.mono HBW.out.size)⟩
        · have tp : 0 < t.size := by omega
          have dt : decide ((0 : Int) < (t.size : Int)) = true := decide_eq_true (by omega)
          obtain ⟨k, hk⟩ : ∃ k, t[0].toNat = k := ⟨_, rfl⟩
          have htk : (t[0].toNat : Int) = (k : Int) := by rw [hk]
          by_cases k1 : k = 123
          · subst k1
            clear hk t0
            go_wp2_with fail
            refine (HSu.out _).mono ?_
            rintro e w6 ⟨rfl, hb6⟩
            have HB6 : Hid (Below W.heap.size W w6) := HB5.out.trans (hb6.mono HB5.out.size)
            clear hb6
            go_wp2
            go_ret
            exact ⟨rfl, HBW.out.trans (HB6.out.mono HBW.out.size)⟩
          · have ek : ((k : Int) == 123) = false := by
              have : (k : Int) ≠ 123 := by omega
              simpa using this
            by_cases t100 : 100 < t.size
            · have dt2 : decide ((100 : Int) < (t.size : Int)) = true := decide_eq_true (by omega)
              clear hk t0
              go_wp2_with fail
              refine (HSu.out _).mono ?_
              rintro e w6 ⟨rfl, hb6⟩
              have HB6 : Hid (Below W.heap.size W w6) := HB5.out.trans (hb6.mono HB5.out.size)
              clear hb6
              go_wp2
              go_ret
              exact ⟨rfl, HBW.out.trans (HB6.out.mono HBW.out.size)⟩
            · have dt2 : decide ((100 : Int) < (t.size : Int)) = false := decide_eq_false (by omega)
              have HC4 := HQ.out (.inr ⟨tp, by rw [hk]; exact k1, by omega⟩)
              clear hk t0
              go_wp2_with fail
              refine (HC4.out _).mono ?_
              rintro e w6 ⟨v6, rfl, hv6, hb6⟩
              have HB6 : Hid (Below W.heap.size W w6) := HB5.out.trans (hb6.mono HB5.out.size)
              have HV6 : Hid (SeeC w6 v cs) := HV5.out.below hb6
              have HU6 : Hid (SeeC w6 v6 cs) := hv6
              clear hb6 hv6
              go_wp2_with fail
              refine (HSm.out _ _ _ HV6.out HU6.out).mono ?_
              rintro e w7 ⟨rfl, hb7⟩
              have HB7 : Hid (Below W.heap.size W w7) := HB6.out.trans (hb7.mono HB6.out.size)
              clear hb7
              go_wp2_with fail
              refine (HSu.out _).mono ?_
              rintro e w8 ⟨rfl, hb8⟩
              have HB8 : Hid (Below W.heap.size W w8) := HB7.out.trans (hb8.mono HB7.out.size)
              clear hb8
              go_wp2
              go_ret
              exact ⟨rfl, HBW.out.trans (HB8.out.mono HBW.out.size)⟩
  · have e0 : ((er : Int) != 0) = true := by
      have : (er : Int) ≠ 0 := by omega
      simpa using this
    clear hC hsd hYd hY
    go_enter Try.func4, Try.ntmps4
    go_upto_region 2 with fail
    rw [HW.out]
    go_wp2_with fail
    refine (HC.out _).mono ?_
    rintro e w1 ⟨v, rfl, hv, hb1⟩
    have HB1 : Hid (Below W.heap.size W w1) := hb1
    clear hb1 hv
    go_wp2_with fail
    refine (HSu.out _).mono ?_
    rintro e w2 ⟨rfl, hb2⟩
    have HB2 : Hid (Below W.heap.size W w2) := HB1.out.trans (hb2.mono HB1.out.size)
    clear hb2
    go_wp2
    go_ret
    exact ⟨rfl, HBW.out.trans (HB2.out.mono HBW.out.size)⟩

theorem blanks_walk (s : ByteArray) (ah : Int) (t : ByteArray) (w : World) (hs : s.size ≤ 140737488355328) : Calls Try.prog 4 #[.string s, .int .i64 ah, .string t] w fun x w' => x = .returned (.bool true) ∧ Below w.heap.size w w' := by
  by_cases h1 : ah < 0
  · exact blanks_low s t ⟨#[32]⟩ ah h1 w hs rfl (by decide) (by decide)
  · by_cases h2 : 6 ≤ ah
    · exact blanks_high s t ⟨#[32]⟩ ah h2 w hs rfl (by decide) (by decide)
    · obtain ⟨j, rfl⟩ : ∃ j : Nat, ah = (j : Int) := ⟨ah.toNat, by omega⟩
      have hj : j < 6 := by omega
      have hex : ∃ Y : ByteArray, blankV[j]? = some (.string Y) ∧ Y.data.toList.all endB = true ∧ Y.size ≤ 5 := by
        match j, hj with
        | 0, _ => exact ⟨_, rfl, by decide, by decide⟩
        | 1, _ => exact ⟨_, rfl, by decide, by decide⟩
        | 2, _ => exact ⟨_, rfl, by decide, by decide⟩
        | 3, _ => exact ⟨_, rfl, by decide, by decide⟩
        | 4, _ => exact ⟨_, rfl, by decide, by decide⟩
        | 5, _ => exact ⟨_, rfl, by decide, by decide⟩
      obtain ⟨Y, e1, e2, e3⟩ := hex
      exact blanks_mid s t Y j hj w hs e1 e2 e3

end Go.Proofs.Ytjlhdnaebdkalaa
