/-
  The document's rowBegins.
  The document's begins.
-/
import Derived.Test.YtplolaondmeccaaGreatDoorWRAC
import Derived.Test.YtplolaondmeccaaGreatDoorRDcK
import Derived.Test.YtplolaondmeccaaGreatDoorRRoE
import Derived.WalkKit
import Derived.LoopTactic
import Derived.OwnWalk
import Derived.RegionTactic
import Derived.Deep.RegionWith
import Derived.Deep.DrawnRows
import Derived.Deep.RegionHeld3
namespace Go.Proofs.YtplolaondmeccaaGreatDoor
open Go.RowKit
set_option linter.unusedVariables false

theorem chs_whole : ∀ k, k < 25 → ∀ c ∈ (chs k).dropLast, c.whole = true := by decide
theorem chs_noc : ∀ k, k < 25 → ∀ c ∈ chs k, c ≠ .qc := by decide
theorem chs_size : ∀ k, k < 25 → 1 ≤ k → k ≠ 4 → 1 ≤ (chs k).length ∧ (chs k).length ≤ 7 := by decide
theorem word_len : ∀ k, k < 25 → (wordOf k).length ≤ 30 := by decide

/-- A text up to a place, held against a word. -/
theorem pre_is (s : ByteArray) (x : ByteArray) (n : Nat) : ((s.extract 0 n).toList == x.toList) = decide (s.data.toList.take n = x.data.toList) := by
  rw [toList_is, extract_take, Lib.toList_data]
theorem word_at (s : ByteArray) (wl : List UInt8) (h : wl.length < s.size) : wl ++ [32] <+: s.data.toList ↔ s.data.toList.take wl.length = wl ∧ s[wl.length] = 32 := by
  have hl : wl.length < s.data.toList.length := by rw [size_data]; exact h
  constructor
  · rintro ⟨r, hr⟩
    refine ⟨by rw [← hr]; simp, ?_⟩
    have h2 : s.data.toList[wl.length]? = some 32 := by rw [← hr]; simp
    rw [List.getElem?_eq_getElem hl] at h2
    exact Option.some.inj h2
  · rintro ⟨h1, h2⟩
    refine ⟨s.data.toList.drop (wl.length + 1), ?_⟩
    have h3 := List.take_append_drop wl.length s.data.toList
    rw [h1, List.drop_eq_getElem_cons hl, show s.data.toList[wl.length] = s[wl.length] from rfl, h2] at h3
    rw [List.append_assoc]
    exact h3

set_option maxRecDepth 20000 in
theorem refCut_is (s : ByteArray) (hs : s.size ≤ 140737488355328) (w : World) :
    Calls Tryz.prog 64 #[.string s] w fun e w' => e = .returned (.tuple #[.string (str (before s.data.toList)), .string (str (behind s.data.toList)), .bool (decide ((32 : UInt8) ∈ s.data.toList))]) ∧ Below w.heap.size w w' := by
  obtain ⟨mo, hmo⟩ : ∃ x, decide ((32 : UInt8) ∈ s.data.toList) = x := ⟨_, rfl⟩
  have HMo : Hid (decide ((32 : UInt8) ∈ s.data.toList) = mo) := hmo
  rw [hmo]
  clear hmo
  go_enter Tryz.func64, Tryz.ntmps64
  go_wp2
  go_loop [5] (fun i => ∃ k : Nat, k ≤ s.size ∧ i = .int .i64 k ∧ Hid (∀ j (hj : j < s.size), j < k → s[j] ≠ 32)) (fun i => s.size - (intOf i).toNat)
  case atStart => exact ⟨0, Nat.zero_le _, rfl, fun j _ h => by omega⟩
  case round =>
    obtain ⟨k, hk, rfl, HN⟩ := hrel
    by_cases hlt : k < s.size
    · by_cases he : ((s[k].toNat : Int) == 32) = true
      · have hb : s[k] = 32 := UInt8.toNat_inj.1 (by have := eq_of_beq he; show s[k].toNat = 32; omega)
        have HC : Hid (before s.data.toList = s.data.toList.take k ∧ behind s.data.toList = s.data.toList.drop (k + 1)) :=
          cut_at s.data.toList k (by rw [size_data]; exact hlt) (fun j hj h => HN.out j (by rw [← size_data]; exact hj) h) hb
        have H1 : Hid (s.extract 0 k = str (before s.data.toList)) := by
          show _ = _
          rw [HC.out.1]
          rw [← strBack (s.extract 0 k), Lib.extract_from_zero]
        have H2 : Hid (s.extract (k + 1) s.size = str (behind s.data.toList)) := by
          show _ = _
          rw [HC.out.2]
          rw [← strBack (s.extract (k + 1) s.size), Lib.extract_to_end]
        have hk1 : ((k : Int) + 1).toNat = k + 1 := by omega
        have hk2 : (k : Int) + 1 ≤ (s.size : Int) := by omega
        have hm : mo = true := by rw [← HMo.out, decide_eq_true_eq]; exact List.mem_iff_getElem.2 ⟨k, by rw [size_data]; exact hlt, hb⟩
        subst hm
        clear hb HN HC HMo
        go_wp2_with fail
        go_region
        all_goals go_wp2
        all_goals go_ret3
        all_goals
          refine ⟨?_, (Below.refl _ _).drew⟩
          rw [← H1.out, ← H2.out]
          rfl
      · have he' : ((s[k].toNat : Int) == 32) = false := by simpa using he
        have HE : Hid (s[k] ≠ 32) := fun h => by rw [h] at he'; exact absurd he' (by decide)
        clear he
        go_wp2
        go_round
        case rel =>
          refine ⟨k + 1, by omega, by go_num, fun j hj h => ?_⟩
          by_cases hjk : j = k
          · subst hjk; exact HE.out
          · exact HN.out j hj (by omega)
        case measure => simp [intOf]; omega
    · have hn : ¬ (32 : UInt8) ∈ s.data.toList := fun hm => by
        obtain ⟨j, hj, e⟩ := List.getElem_of_mem hm
        rw [size_data] at hj
        exact HN.out j hj (by omega) e
      have H1 : Hid (s = str (before s.data.toList)) := by
        show _ = _
        rw [before_all _ hn]
        rfl
      have H2 : Hid (behind s.data.toList = []) := behind_all _ hn
      have hm : mo = false := by rw [← HMo.out, decide_eq_false_iff_not]; exact hn
      subst hm
      clear hn HN HMo
      go_wp2
      go_ret3
      refine ⟨?_, Below.refl _ _⟩
      rw [← H1.out, H2.out]
      rfl

set_option maxRecDepth 20000 in
set_option maxHeartbeats 2000000 in
theorem rowBegins_ref (k : Nat) (h1 : 1 ≤ k) (h2 : k ≤ 24) (h4 : k ≠ 4) (s : ByteArray) (hs : s.size ≤ 1048576) (w : World) :
    Calls Tryz.prog 36 #[.string s, .agg #[.int .i64 k, .string (str (wordOf k)), .string (partsOf (chs k))]] w fun e w' => e = .returned (.bool (begS k s.data.toList)) ∧ Below w.heap.size w w' := by
  have hrow := begS_row k h1 h2 h4 s.data.toList
  unfold begTail at hrow
  have hwl := word_len k (by omega)
  obtain ⟨m1, m2⟩ := chs_size k (by omega) h1 h4
  have HWh : Hid (∀ c ∈ (chs k).dropLast, c.whole = true) := chs_whole k (by omega)
  have HNc : Hid (∀ c ∈ chs k, c ≠ .qc) := chs_noc k (by omega)
  obtain ⟨cs, hcs⟩ : ∃ cs, chs k = cs := ⟨_, rfl⟩
  obtain ⟨wl, hwl2⟩ : ∃ wl, wordOf k = wl := ⟨_, rfl⟩
  rw [hcs] at m1 m2 HWh HNc hrow ⊢
  rw [hwl2] at hwl hrow ⊢
  obtain ⟨res, hres⟩ : ∃ r, begS k s.data.toList = r := ⟨_, rfl⟩
  rw [hres] at hrow ⊢
  obtain ⟨wd, hwd⟩ : ∃ x, str wl = x := ⟨_, rfl⟩
  have hwds : wd.size = wl.length := by rw [← hwd, str_size]
  have hwdd : wd.data.toList = wl := by rw [← hwd, str_data]
  rw [hwd]
  have hsd := size_data s
  rw [hsd] at hrow
  have HB0 : Hid (∀ o, Below w.heap.size w (w.alloc o)) := fun o => below1 w o
  by_cases hle : s.size ≤ wl.length
  · rw [if_pos hle] at hrow
    have hx := toList_is s (wl.take s.size)
    have hx2 : (s.toList == (wd.extract 0 s.size).toList) = res := by rw [Lib.toList_data (wd.extract 0 s.size), extract_take, hwdd, hx, ← hrow]
    have hlz : (s.size : Int) ≤ (wd.size : Int) := by omega
    clear hrow hx hres hcs hwl2 hwd hwdd HWh HNc hwds hle hwl hsd
    go_enter Tryz.func36, Tryz.ntmps36
    go_wp2
    all_goals go_ret
    all_goals exact ⟨rfl, HB0.out _⟩
  · rw [if_neg hle] at hrow
    have hgt : wl.length < s.size := by omega
    have hgz : (wd.size : Int) < (s.size : Int) := by omega
    have hgz2 : ¬ (s.size : Int) ≤ (wd.size : Int) := by omega
    have hgz3 : (wd.size : Int) ≤ (s.size : Int) := by omega
    have hgz4 : (wd.size : Int) + 1 ≤ (s.size : Int) := by omega
    have hpi := pre_is s wd wd.size
    rw [hwds, hwdd] at hpi
    have hwa := word_at s wl hgt
    by_cases hpr : s.data.toList.take wl.length = wl
    · rw [decide_eq_true hpr] at hpi
      rw [← hwds] at hpi
      obtain ⟨x, hx⟩ : ∃ x, s[wd.size]'(by omega) = x := ⟨_, rfl⟩
      have hxw : s[wl.length] = x := by rw [← hx]; simp only [hwds]
      have hidx : ∀ W, (Instr.index 9 (.string s) (.int .i64 (wd.size : Int))).run Tryz.prog W = .ok (.int .u8 (x.toNat : Int)) W := fun W => by
        have := index_at s wd.size 0 (by omega) W
        rw [← hx]
        simpa using this
      by_cases hx32 : x = 32
      · have hpx : wl ++ [32] <+: s.data.toList := hwa.2 ⟨hpr, hxw.trans hx32⟩
        rw [decide_eq_true hpx, Bool.true_and] at hrow
        have hx2 : ((x.toNat : Int) != 32) = false := by rw [hx32]; rfl
        obtain ⟨ps, hps⟩ : ∃ x, partsOf cs = x := ⟨_, rfl⟩
        have hpsz : ps.size = cs.length := by rw [← hps, partsOf_size]
        have HIx : Hid (∀ (j : Nat) c, cs[j]? = some c → ∀ W, (Instr.index 9 (.string ps) (.int .i64 (j : Int))).run Tryz.prog W = .ok (.int .u8 (c.byte.toNat : Int)) W) := fun j c h W => hps ▸ index_part cs j c h W
        rw [hps]
        obtain ⟨n, hn⟩ : ∃ n, cs.length = n := ⟨_, rfl⟩
        have HLn : Hid (cs.length = n) := hn
        rw [hn] at m1 m2 hpsz
        obtain ⟨W, hW⟩ : ∃ W, (w.alloc (.cells #[.int .i64 k, .string wd, .string ps] 72)).drew = W := ⟨_, rfl⟩
        have HW : Hid ((w.alloc (.cells #[.int .i64 k, .string wd, .string ps] 72)).drew = W) := hW
        have HBW : Hid (Below w.heap.size w W) := hW ▸ (below1 w _).drew
        have HSz : Hid (w.heap.size < W.heap.size) := by show _ < _; rw [← hW]; show _ < (w.alloc _).heap.size; rw [size1]; omega
        have HC1 : Hid (W.cell? ⟨w.heap.size, 1, none⟩ = some (.string wd)) := by show _ = _; rw [← hW]; exact cell_at (heap_alloc_new w _) 1
        have HC2 : Hid (W.cell? ⟨w.heap.size, 2, none⟩ = some (.string ps)) := by show _ = _; rw [← hW]; exact cell_at (heap_alloc_new w _) 2
        have HL0 : Hid (str (s.data.toList.drop (wl.length + 1)) = s.extract (wd.size + 1) s.size) := by
          show _ = _
          rw [hwds]
          exact (congrArg str (extract_drop s (wl.length + 1))).symm
        have HRow : Hid (res = begC cs (s.data.toList.drop (wl.length + 1))) := hrow
        have hLl : (s.data.toList.drop (wl.length + 1)).length ≤ 1048576 := by rw [List.length_drop]; omega
        obtain ⟨L0, hL0⟩ : ∃ L, s.data.toList.drop (wl.length + 1) = L := ⟨_, rfl⟩
        rw [hL0] at HRow HL0 hLl
        have hpz : (ps.size : Int) = (n : Int) := by omega
        have hgz5 : ((wd.size : Int) + 1).toNat = wd.size + 1 := by omega
        have hwz : wd.size ≤ 30 := by omega
        clear hrow hwa hpr hres hcs hwl2 hwd hwdd hwds hle hwl hsd hgt hx hxw hx32 hn hW hps hL0 hpsz hpx
        go_enter Tryz.func36, Tryz.ntmps36
        go_wp2
        go_region_held3 (fun W' => W'.cell? ⟨w.heap.size, 1, none⟩ = some (.string wd)) (go_keep) (fail)
        rw [HW.out]
        have hc1 := HC1.out
        have hc2 := HC2.out
        go_wp2
        rw [← HL0.out]
        go_loopw [5, 6] (fun u v wr => ∃ (j : Nat) (L : List UInt8), j + 1 ≤ n ∧ u = .string (str L) ∧ v = .int .i64 j ∧ L.length ≤ 1048576 ∧ begC (cs.drop j) L = res ∧ Below W.heap.size W wr) (fun _ v _ => n - (intOf v).toNat)
        case atStart => exact ⟨0, L0, by omega, rfl, rfl, hLl, HRow.out.symm, Below.refl _ _⟩
        case round =>
          obtain ⟨j, L, hj, rfl, rfl, hLs, hbeg, hb⟩ := hrel
          have HB : Hid (Below W.heap.size W wr) := hb
          have HBw : Hid (Below w.heap.size w wr) := HBW.out.trans (hb.mono (Nat.le_of_lt HSz.out))
          have d2 : wr.cell? ⟨w.heap.size, 2, none⟩ = some (.string ps) := (hb.cell (p := ⟨w.heap.size, 2, none⟩) HSz.out).trans hc2
          obtain ⟨c, hc⟩ : ∃ c, cs[j]? = some c := ⟨_, List.getElem?_eq_getElem (by rw [HLn.out]; omega)⟩
          obtain ⟨hjl, hjc⟩ := List.getElem?_eq_some_iff.1 hc
          have hix := HIx.out j c hc
          have HPb : Hid (∀ W', Calls Tryz.prog 68 #[.string (str L), .int .u8 (c.byte.toNat : Int)] W' fun e w' => e = .returned (.bool (c.beg L)) ∧ Below W'.heap.size W' w') := fun W' => partBegins_any c (HNc.out c (List.mem_of_getElem? hc)) (str L) (by rw [str_size]; exact hLs) W'
          clear hb hc1 hc2
          by_cases hlast : j + 1 < n
          · obtain ⟨d, ds, hds⟩ : ∃ d ds, cs.drop (j + 1) = d :: ds := by
              have : (cs.drop (j + 1)).length ≠ 0 := by rw [List.length_drop, HLn.out]; omega
              cases hd : cs.drop (j + 1) with
              | nil => rw [hd] at this; exact absurd rfl this
              | cons d ds => exact ⟨d, ds, rfl⟩
            rw [List.drop_eq_getElem_cons hjl, hjc, hds] at hbeg
            have HDs : Hid (cs.drop (j + 1) = d :: ds) := hds
            clear hds
            have hbeg2 : (if 32 ∈ L then (c.F.read (before L)).isSome && begC (d :: ds) (behind L) else c.beg L) = res := hbeg
            have hwh : c.whole = true := HWh.out c (by
              rw [← hjc, ← List.getElem_dropLast (by rw [List.length_dropLast, HLn.out]; omega)]
              exact List.getElem_mem _)
            have hjz : (j : Int) < (n : Int) - 1 := by omega
            have hble : (before L).length ≤ 1048576 := Nat.le_trans ((List.takeWhile_sublist _).length_le) hLs
            have hbhe : (behind L).length ≤ 1048576 := by
              have : (L.dropWhile (· != 32)).length ≤ L.length := (List.dropWhile_sublist _).length_le
              show ((L.dropWhile (· != 32)).drop 1).length ≤ _
              rw [List.length_drop]
              omega
            have HCu : Hid (Calls Tryz.prog 64 #[.string (str L)] wr fun e w' => e = .returned (.tuple #[.string (str (before L)), .string (str (behind L)), .bool (decide ((32 : UInt8) ∈ L))]) ∧ Below wr.heap.size wr w') := refCut_is (str L) (by rw [str_size]; omega) wr
            have HPi : Hid (∀ W', Calls Tryz.prog 69 #[.string (str (before L)), .int .u8 (c.byte.toNat : Int)] W' fun e w' => e = .returned (.bool (c.F.read (before L)).isSome) ∧ Below W'.heap.size W' w') := fun W' => partIs_any c hwh (str (before L)) (by rw [str_size]; exact hble) W'
            obtain ⟨xo, hxo⟩ : ∃ x, str (before L) = x := ⟨_, rfl⟩
            obtain ⟨cb, hcb⟩ : ∃ x, (c.byte.toNat : Int) = x := ⟨_, rfl⟩
            rw [hxo] at HCu HPi
            rw [hcb] at hix HPi HPb
            by_cases h32 : (32 : UInt8) ∈ L
            · rw [if_pos h32] at hbeg2
              rw [decide_eq_true h32] at HCu
              obtain ⟨ok, hok⟩ : ∃ x, (c.F.read (before L)).isSome = x := ⟨_, rfl⟩
              rw [hok] at HPi hbeg2
              have HBg : Hid ((ok && begC (d :: ds) (behind L)) = res) := hbeg2
              clear hbeg hbeg2 hxo hcb hok h32 hjl hjc hc HPb hwh hble
              go_wp2_with fail
              refine HCu.out.mono ?_
              rintro e w1 ⟨rfl, hb1⟩
              have HB1 : Hid (Below W.heap.size W w1) := HB.out.trans (hb1.mono HB.out.size)
              have e2 : w1.cell? ⟨w.heap.size, 2, none⟩ = some (.string ps) := (hb1.cell (p := ⟨w.heap.size, 2, none⟩) (World.block_lt_of_cell? _ _ d2)).trans d2
              clear hb1
              go_wp2_with fail
              refine (HPi.out _).mono ?_
              rintro e w2 ⟨rfl, hb2⟩
              have HB2 : Hid (Below W.heap.size W w2) := HB1.out.trans (hb2.mono HB1.out.size)
              have HB2w : Hid (Below w.heap.size w w2) := HBW.out.trans (HB2.out.mono (Nat.le_of_lt HSz.out))
              clear hb2
              cases ok
              · have hr : res = false := HBg.out.symm
                subst hr
                go_wp2
                all_goals go_ret
                all_goals exact ⟨rfl, HB2w.out⟩
              · have HBg2 : Hid (begC (cs.drop (j + 1)) (behind L) = res) := by
                  show _ = _
                  rw [HDs.out, ← HBg.out, Bool.true_and]
                go_wp2
                go_roundw
                case rel => exact ⟨j + 1, behind L, by omega, rfl, by go_num, hbhe, HBg2.out, HB2.out⟩
                case measure => simp [intOf]; omega
            · rw [if_neg h32] at hbeg2
              rw [decide_eq_false h32] at HCu
              rw [hbeg2] at HPb
              clear hbeg hbeg2 hxo hcb h32 hjl hjc hc HPi hwh hble
              go_wp2_with fail
              refine HCu.out.mono ?_
              rintro e w1 ⟨rfl, hb1⟩
              have HB1w : Hid (Below w.heap.size w w1) := HBw.out.trans (hb1.mono HBw.out.size)
              have e2 : w1.cell? ⟨w.heap.size, 2, none⟩ = some (.string ps) := (hb1.cell (p := ⟨w.heap.size, 2, none⟩) (World.block_lt_of_cell? _ _ d2)).trans d2
              clear hb1
              go_wp2_with fail
              refine (HPb.out _).mono ?_
              rintro e w2 ⟨rfl, hb2⟩
              have HB2w : Hid (Below w.heap.size w w2) := HB1w.out.trans (hb2.mono HB1w.out.size)
              clear hb2
              go_wp2
              all_goals go_ret
              all_goals exact ⟨rfl, HB2w.out⟩
          · have hjn : n = j + 1 := by omega
            have hdr : cs.drop j = [c] := by
              rw [List.drop_eq_getElem_cons hjl, hjc, List.drop_eq_nil_of_le (by rw [HLn.out]; omega)]
            rw [hdr] at hbeg
            have hbeg2 : c.beg L = res := hbeg
            rw [hbeg2] at HPb
            obtain ⟨cb, hcb⟩ : ∃ x, (c.byte.toNat : Int) = x := ⟨_, rfl⟩
            rw [hcb] at hix HPb
            have hjz : ¬ (j : Int) < (n : Int) - 1 := by omega
            have hix2 : ∀ W, (Instr.index 9 (.string ps) (.int .i64 ((n : Int) - 1))).run Tryz.prog W = .ok (.int .u8 cb) W := by rw [show (n : Int) - 1 = (j : Int) by omega]; exact hix
            clear hbeg hbeg2 hcb hjl hjc hc hdr hjn hix
            go_wp2_with fail
            refine (HPb.out _).mono ?_
            rintro e w2 ⟨rfl, hb2⟩
            have HB2w : Hid (Below w.heap.size w w2) := HBw.out.trans (hb2.mono HBw.out.size)
            clear hb2
            go_wp2
            all_goals go_ret
            all_goals exact ⟨rfl, HB2w.out⟩
      · have hr : res = false := by rw [hrow, decide_eq_false (fun h => hx32 (hxw.symm.trans (hwa.1 h).2)), Bool.false_and]
        subst hr
        have hx2 : ((x.toNat : Int) != 32) = true := by
          simp only [bne_iff_ne, ne_eq]
          intro h
          exact hx32 (UInt8.toNat_inj.1 (by show x.toNat = 32; omega))
        clear hrow hwa hpr hres hcs hwl2 hwd hwdd HWh HNc hwds hle hwl hsd hgt hx hxw hx32
        go_enter Tryz.func36, Tryz.ntmps36
        go_wp2
        go_region_held3 (fun W' => W'.cell? ⟨w.heap.size, 1, none⟩ = some (.string wd)) (go_keep) (fail)
        all_goals go_wp2
        all_goals go_ret
        all_goals exact ⟨rfl, (HB0.out _).drew⟩
    · rw [decide_eq_false hpr] at hpi
      have hr : res = false := by rw [hrow, decide_eq_false (fun h => hpr (hwa.1 h).1), Bool.false_and]
      subst hr
      rw [← hwds] at hpi
      clear hrow hwa hpr hres hcs hwl2 hwd hwdd HWh HNc hwds hle hwl hsd hgt
      go_enter Tryz.func36, Tryz.ntmps36
      go_wp2
      refine wp_region_noPanic ?_
      refine wp_region_held_drew (S := (fun W' => W'.cell? ⟨w.heap.size, 1, none⟩ = some (.string wd))) (by kernel_rfl) ?_ (fun hHeld => ?_)
      · go_keep
      refine wpAnyH_take (i := 0) (v := ?v0) (by simp only [List.getElem?_toArray, List.getElem?_cons_zero]; rfl) (by kernel_rfl) (by kernel_rfl) (by kernel_rfl) (fun _ _ _ h => h) (Or.inl ⟨by rfl, ?hy0⟩) (by assumption) ?rest0
      case hy0 =>
        intro w hSw
        try dsimp only at hSw
        go_simp
        try with_reducible rfl
      try simp only [Act.put, List.setIfInBounds_toArray, List.set_cons_zero, List.set_cons_succ]
      refine wpAnyH_take (i := 1) (v := ?v1) (by simp only [List.getElem?_toArray, List.getElem?_cons_succ, List.getElem?_cons_zero]; rfl) (by kernel_rfl) (by kernel_rfl) (by kernel_rfl) (fun _ _ _ h => h) (Or.inl ⟨by rfl, ?hy1⟩) (by assumption) ?rest1
      case hy1 =>
        intro w hSw
        try dsimp only at hSw
        go_simp
        try with_reducible rfl
      try simp only [Act.put, List.setIfInBounds_toArray, List.set_cons_zero, List.set_cons_succ]
      refine wpAnyH_take (i := 2) (v := ?v2) (by simp only [List.getElem?_toArray, List.getElem?_cons_succ, List.getElem?_cons_zero]; rfl) (by kernel_rfl) (by kernel_rfl) (by kernel_rfl) (fun _ _ _ h => h) (Or.inl ⟨by rfl, ?hy2⟩) (by assumption) ?rest2
      case hy2 =>
        intro w hSw
        try dsimp only at hSw
        go_simp
        try with_reducible rfl
      try simp only [Act.put, List.setIfInBounds_toArray, List.set_cons_zero, List.set_cons_succ]
      refine wpAnyH_take (i := 3) (v := ?v3) (by simp only [List.getElem?_toArray, List.getElem?_cons_succ, List.getElem?_cons_zero]; rfl) (by kernel_rfl) (by kernel_rfl) (by kernel_rfl) (fun _ _ _ h => h) (Or.inl ⟨by rfl, ?hy3⟩) (by assumption) ?rest3
      case hy3 =>
        intro w hSw
        try dsimp only at hSw
        go_simp
        try with_reducible rfl
      try simp only [Act.put, List.setIfInBounds_toArray, List.set_cons_zero, List.set_cons_succ]
      refine wpAnyH_take (i := 4) (v := ?v4) (by simp only [List.getElem?_toArray, List.getElem?_cons_succ, List.getElem?_cons_zero]; rfl) (by kernel_rfl) (by kernel_rfl) (by kernel_rfl) (fun _ _ _ h => h) (Or.inl ⟨by rfl, ?hy4⟩) (by assumption) ?rest4
      case hy4 =>
        intro w hSw
        try dsimp only at hSw
        go_simp
        try with_reducible rfl
      try simp only [Act.put, List.setIfInBounds_toArray, List.set_cons_zero, List.set_cons_succ]
      refine wpAnyH_take (i := 5) (v := ?v5) (by simp only [List.getElem?_toArray, List.getElem?_cons_succ, List.getElem?_cons_zero]; rfl) (by kernel_rfl) (by kernel_rfl) (by kernel_rfl) (fun _ _ _ h => h) (Or.inl ⟨by rfl, ?hy5⟩) (by assumption) ?rest5
      case hy5 =>
        intro w hSw
        try dsimp only at hSw
        go_simp
        try with_reducible rfl
      try simp only [Act.put, List.setIfInBounds_toArray, List.set_cons_zero, List.set_cons_succ]
      refine wpAnyH_take (i := 6) (v := ?v6) (by simp only [List.getElem?_toArray, List.getElem?_cons_succ, List.getElem?_cons_zero]; rfl) (by kernel_rfl) (by kernel_rfl) (by kernel_rfl) (fun _ _ _ h => h) (Or.inl ⟨by rfl, ?hy6⟩) (by assumption) ?rest6
      case hy6 =>
        intro w hSw
        try dsimp only at hSw
        go_simp
        try with_reducible rfl
      try simp only [Act.put, List.setIfInBounds_toArray, List.set_cons_zero, List.set_cons_succ]
      refine wpAnyH_take (i := 7) (v := ?v7) (by simp only [List.getElem?_toArray, List.getElem?_cons_succ, List.getElem?_cons_zero]; rfl) (by kernel_rfl) (by kernel_rfl) (by kernel_rfl) (fun _ _ _ h => h) (Or.inl ⟨by rfl, ?hy7⟩) (by assumption) ?rest7
      case hy7 =>
        intro w hSw
        try dsimp only at hSw
        go_simp
        try with_reducible rfl
      try simp only [Act.put, List.setIfInBounds_toArray, List.set_cons_zero, List.set_cons_succ]
      refine wpAnyH_take (i := 8) (v := ?v8) (by simp only [List.getElem?_toArray, List.getElem?_cons_succ, List.getElem?_cons_zero]; rfl) (by kernel_rfl) (by kernel_rfl) (by kernel_rfl) (fun _ _ _ h => h) (Or.inl ⟨by rfl, ?hy8⟩) (by assumption) ?rest8
      case hy8 =>
        intro w hSw
        try dsimp only at hSw
        go_simp
        try with_reducible rfl
      try simp only [Act.put, List.setIfInBounds_toArray, List.set_cons_zero, List.set_cons_succ]
      refine wpAnyH_take (i := 9) (v := undef) (by simp only [List.getElem?_toArray, List.getElem?_cons_succ, List.getElem?_cons_zero]; rfl) (by kernel_rfl) (by kernel_rfl) (by kernel_rfl) (fun _ _ _ h => h) (Or.inr ⟨by rfl, rfl⟩) (by assumption) ?_
      try simp only [Act.put, List.setIfInBounds_toArray, List.set_cons_zero, List.set_cons_succ]
      refine wpAnyH_take (i := 10) (v := undef) (by simp only [List.getElem?_toArray, List.getElem?_cons_succ, List.getElem?_cons_zero]; rfl) (by kernel_rfl) (by kernel_rfl) (by kernel_rfl) (fun _ _ _ h => h) (Or.inr ⟨by rfl, rfl⟩) (by assumption) ?_
      try simp only [Act.put, List.setIfInBounds_toArray, List.set_cons_zero, List.set_cons_succ]
      refine wpAnyH_take (i := 11) (v := undef) (by simp only [List.getElem?_toArray, List.getElem?_cons_succ, List.getElem?_cons_zero]; rfl) (by kernel_rfl) (by kernel_rfl) (by kernel_rfl) (fun _ _ _ h => h) (Or.inr ⟨by rfl, rfl⟩) (by assumption) ?_
      try simp only [Act.put, List.setIfInBounds_toArray, List.set_cons_zero, List.set_cons_succ]
      refine wpAnyH_take (i := 12) (v := undef) (by simp only [List.getElem?_toArray, List.getElem?_cons_succ, List.getElem?_cons_zero]; rfl) (by kernel_rfl) (by kernel_rfl) (by kernel_rfl) (fun _ _ _ h => h) (Or.inr ⟨by rfl, rfl⟩) (by assumption) ?_
      try simp only [Act.put, List.setIfInBounds_toArray, List.set_cons_zero, List.set_cons_succ]
      refine wpAnyH_take (i := 13) (v := undef) (by simp only [List.getElem?_toArray, List.getElem?_cons_succ, List.getElem?_cons_zero]; rfl) (by kernel_rfl) (by kernel_rfl) (by kernel_rfl) (fun _ _ _ h => h) (Or.inr ⟨by rfl, rfl⟩) (by assumption) ?_
      try simp only [Act.put, List.setIfInBounds_toArray, List.set_cons_zero, List.set_cons_succ]
      refine wpAnyH_take (i := 14) (v := undef) (by simp only [List.getElem?_toArray, List.getElem?_cons_succ, List.getElem?_cons_zero]; rfl) (by kernel_rfl) (by kernel_rfl) (by kernel_rfl) (fun _ _ _ h => h) (Or.inr ⟨by rfl, rfl⟩) (by assumption) ?_
      try simp only [Act.put, List.setIfInBounds_toArray, List.set_cons_zero, List.set_cons_succ]
      refine wpAnyH_take (i := 15) (v := ?v15) (by simp only [List.getElem?_toArray, List.getElem?_cons_succ, List.getElem?_cons_zero]; rfl) (by kernel_rfl) (by kernel_rfl) (by kernel_rfl) (fun _ _ _ h => h) (Or.inl ⟨by rfl, ?hy15⟩) (by assumption) ?rest15
      case hy15 =>
        intro w hSw
        try dsimp only at hSw
        go_simp
        try with_reducible rfl
      try simp only [Act.put, List.setIfInBounds_toArray, List.set_cons_zero, List.set_cons_succ]
      refine wpAnyH_done (by kernel_rfl) ?_ _
      refine NoPanic.normal ?_
      all_goals go_wp2
      all_goals go_ret
      all_goals exact ⟨rfl, (HB0.out _).drew⟩

end Go.Proofs.YtplolaondmeccaaGreatDoor

namespace Go.Proofs.YtplolaondmeccaaGreatDoor
open Go.RowKit
set_option linter.unusedVariables false

theorem refBeg_body (block : Bool) (c : UInt8) (l : List UInt8) (h : c ≠ 37) : refBeg block c l = (block && begF fBody (c :: l)) := by unfold refBeg; rw [if_neg h]
theorem refBeg_rows (block : Bool) (c : UInt8) (l : List UInt8) (h : c = 37) : refBeg block c l = ((List.range 23).any fun i => ((decide (kAt i = 2) || decide (kAt i = 3)) == block) && begS (kAt i) (c :: l)) := by unfold refBeg; rw [if_pos h]

set_option maxRecDepth 20000 in
set_option maxHeartbeats 2000000 in
theorem begins_ref (s : ByteArray) (c : UInt8) (l : List UInt8) (hsl : s.data.toList = c :: l) (hs : s.size ≤ 1048576) (block : Bool) (w : World) :
    Calls Tryz.prog 23 #[.string s, .bool block] w fun e w' => e = .returned (.bool (refBeg block c l)) ∧ Below w.heap.size w w' := by
  have h0 : 0 < s.size := by rw [← size_data, hsl]; simp
  have hz0 : (0 : Int) < (s.size : Int) := by omega
  have hs0 : s[0] = c := by
    have h1 : s.data.toList[0]? = some c := by rw [hsl]; rfl
    have h2 := List.getElem?_eq_some_iff.1 h1
    exact h2.2
  obtain ⟨res, hres⟩ : ∃ r, refBeg block c l = r := ⟨_, rfl⟩
  rw [hres]
  by_cases hc : c = 37
  · rw [refBeg_rows _ _ _ hc] at hres
    have HYes : Hid (∀ i, i < 23 → ((decide (kAt i = 2) || decide (kAt i = 3)) == block) = true → begS (kAt i) s.data.toList = true → res = true) := fun i hi h1 h2 => by
      rw [← hres]
      exact List.any_eq_true.2 ⟨i, by simpa using hi, by rw [h1, ← hsl, h2]; rfl⟩
    have HNo : Hid ((∀ i, i < 23 → (((decide (kAt i = 2) || decide (kAt i = 3)) == block) && begS (kAt i) s.data.toList) = false) → res = false) := fun h => by
      rw [← hres, List.any_eq_false]
      intro i hi
      rw [← hsl, h i (by simpa using hi)]
      decide
    have HRw : Hid (∀ W, Calls Tryz.prog 35 #[] W fun e w' => e = .returned (.slice (some ⟨W.heap.size, 0, none⟩) 23 23) ∧ TabAt w' W.heap.size ∧ W.heap.size < w'.heap.size ∧ Below W.heap.size W w') := fun W => rows_any W
    have HRb : Hid (∀ i, i < 23 → ∀ W, Calls Tryz.prog 36 #[.string s, .agg #[.int .i64 (kAt i : Nat), .string (str (wordOf (kAt i))), .string (partsOf (chs (kAt i)))]] W fun e w' => e = .returned (.bool (begS (kAt i) s.data.toList)) ∧ Below W.heap.size W w') := fun i hi W => by
      obtain ⟨b1, b2, b3⟩ := kAt_facts i hi
      exact rowBegins_ref (kAt i) b1 b2 b3 s hs W
    have hx : ((s[0].toNat : Int) != 37) = false := by rw [hs0, hc]; rfl
    clear hres hs0 hsl hc
    go_enter Tryz.func23, Tryz.ntmps23
    go_wp2_with fail
    refine (HRw.out _).mono ?_
    rintro e w1 ⟨rfl, ht, hlt, hb⟩
    have HT : Hid (TabAt w1 w.heap.size) := ht
    have HSz : Hid (w.heap.size < w1.heap.size) := hlt
    have HB0 : Hid (Below w.heap.size w w1) := hb
    clear ht hlt hb
    go_wp2
    go_loopw [6] (fun v wr => ∃ i : Nat, i ≤ 23 ∧ v = .int .i64 i ∧ Below w1.heap.size w1 wr ∧ ∀ j, j < i → (((decide (kAt j = 2) || decide (kAt j = 3)) == block) && begS (kAt j) s.data.toList) = false) (fun v _ => 23 - (intOf v).toNat)
    case atStart => exact ⟨0, by omega, rfl, Below.refl _ _, fun j h => by omega⟩
    case round =>
      obtain ⟨i, hi23, rfl, hb, hno⟩ := hrel
      have HB : Hid (Below w1.heap.size w1 wr) := hb
      have HN : Hid (∀ j, j < i → (((decide (kAt j = 2) || decide (kAt j = 3)) == block) && begS (kAt j) s.data.toList) = false) := hno
      have HBw : Hid (Below w.heap.size w wr) := HB0.out.trans (hb.mono (Nat.le_of_lt HSz.out))
      by_cases hlt : i < 23
      · have hlz : (i : Int) < 23 := by omega
        obtain ⟨c0, c1, c2⟩ := (HT.out.below hb HSz.out) i hlt
        have HRi0 := HRb.out i hlt
        obtain ⟨ans, hans⟩ : ∃ x, begS (kAt i) s.data.toList = x := ⟨_, rfl⟩
        have HA : Hid (begS (kAt i) s.data.toList = ans) := hans
        rw [hans] at HRi0
        obtain ⟨wd, hwd⟩ : ∃ x, str (wordOf (kAt i)) = x := ⟨_, rfl⟩
        obtain ⟨ps, hps⟩ : ∃ x, partsOf (chs (kAt i)) = x := ⟨_, rfl⟩
        rw [hwd] at c1 HRi0
        rw [hps] at c2 HRi0
        obtain ⟨kn, hkn⟩ : ∃ x, kAt i = x := ⟨_, rfl⟩
        have HKn : Hid (kAt i = kn) := hkn
        rw [hkn] at c0 HRi0
        have HRi : Hid (∀ W, Calls Tryz.prog 36 #[.string s, .agg #[.int .i64 (kn : Nat), .string wd, .string ps]] W fun e w' => e = .returned (.bool ans) ∧ Below W.heap.size W w') := HRi0
        clear hb hno hans hwd hps hkn HRi0
        have HAk : Hid (begS kn s.data.toList = ans) := by show _ = _; rw [← HKn.out]; exact HA.out
        by_cases k2 : kn = 2
        · subst k2
          have d2 : (((2 : Nat) : Int) == 2) = true := rfl
          cases block
          · go_wp2
            go_roundw
            case rel =>
              refine ⟨i + 1, by omega, by go_num, HB.out, fun j hj => ?_⟩
              by_cases hji : j = i
              · subst hji
                rw [HKn.out, show ((decide (2 = 2) || decide (2 = 3)) == false) = false from rfl, Bool.false_and]
              · exact HN.out j (by omega)
            case measure => simp [intOf]; omega
          · go_wp2_with fail
            refine (HRi.out _).mono ?_
            rintro e w2 ⟨rfl, hb2⟩
            have HB2 : Hid (Below w1.heap.size w1 w2) := HB.out.trans (hb2.mono HB.out.size)
            have HB2w : Hid (Below w.heap.size w w2) := HB0.out.trans (HB2.out.mono (Nat.le_of_lt HSz.out))
            clear hb2
            cases ans
            · go_wp2
              go_roundw
              case rel =>
                refine ⟨i + 1, by omega, by go_num, HB2.out, fun j hj => ?_⟩
                by_cases hji : j = i
                · subst hji
                  rw [HKn.out, HAk.out, Bool.and_false]
                · exact HN.out j (by omega)
              case measure => simp [intOf]; omega
            · have hr : res = true := HYes.out i hlt (by rw [HKn.out]; rfl) HA.out
              subst hr
              go_wp2
              all_goals go_ret
              all_goals exact ⟨rfl, HB2w.out⟩
        · by_cases k3 : kn = 3
          · subst k3
            cases block
            · go_wp2
              go_roundw
              case rel =>
                refine ⟨i + 1, by omega, by go_num, HB.out, fun j hj => ?_⟩
                by_cases hji : j = i
                · subst hji
                  rw [HKn.out, show ((decide (3 = 2) || decide (3 = 3)) == false) = false from rfl, Bool.false_and]
                · exact HN.out j (by omega)
              case measure => simp [intOf]; omega
            · go_wp2_with fail
              refine (HRi.out _).mono ?_
              rintro e w2 ⟨rfl, hb2⟩
              have HB2 : Hid (Below w1.heap.size w1 w2) := HB.out.trans (hb2.mono HB.out.size)
              have HB2w : Hid (Below w.heap.size w w2) := HB0.out.trans (HB2.out.mono (Nat.le_of_lt HSz.out))
              clear hb2
              cases ans
              · go_wp2
                go_roundw
                case rel =>
                  refine ⟨i + 1, by omega, by go_num, HB2.out, fun j hj => ?_⟩
                  by_cases hji : j = i
                  · subst hji
                    rw [HKn.out, HAk.out, Bool.and_false]
                  · exact HN.out j (by omega)
                case measure => simp [intOf]; omega
              · have hr : res = true := HYes.out i hlt (by rw [HKn.out]; rfl) HA.out
                subst hr
                go_wp2
                all_goals go_ret
                all_goals exact ⟨rfl, HB2w.out⟩
          · have z2 : ((kn : Int) == 2) = false := by simp; omega
            have z3 : ((kn : Int) == 3) = false := by simp; omega
            cases block
            · go_wp2_with fail
              refine (HRi.out _).mono ?_
              rintro e w2 ⟨rfl, hb2⟩
              have HB2 : Hid (Below w1.heap.size w1 w2) := HB.out.trans (hb2.mono HB.out.size)
              have HB2w : Hid (Below w.heap.size w w2) := HB0.out.trans (HB2.out.mono (Nat.le_of_lt HSz.out))
              clear hb2
              cases ans
              · go_wp2
                go_roundw
                case rel =>
                  refine ⟨i + 1, by omega, by go_num, HB2.out, fun j hj => ?_⟩
                  by_cases hji : j = i
                  · subst hji
                    rw [HKn.out, HAk.out, Bool.and_false]
                  · exact HN.out j (by omega)
                case measure => simp [intOf]; omega
              · have hr : res = true := HYes.out i hlt (by rw [HKn.out]; rw [decide_eq_false k2, decide_eq_false k3]; rfl) HA.out
                subst hr
                go_wp2
                all_goals go_ret
                all_goals exact ⟨rfl, HB2w.out⟩
            · go_wp2
              go_roundw
              case rel =>
                refine ⟨i + 1, by omega, by go_num, HB.out, fun j hj => ?_⟩
                by_cases hji : j = i
                · subst hji
                  rw [HKn.out, decide_eq_false k2, decide_eq_false k3, show ((false || false) == true) = false from rfl, Bool.false_and]
                · exact HN.out j (by omega)
              case measure => simp [intOf]; omega
      · have hi' : i = 23 := by omega
        subst hi'
        have hr : res = false := HNo.out HN.out
        subst hr
        clear hb hno
        go_wp2
        all_goals go_ret
        all_goals exact ⟨rfl, HBw.out⟩
  · rw [refBeg_body _ _ _ hc, ← hsl] at hres
    have hx : ((s[0].toNat : Int) != 37) = true := by
      rw [hs0]
      simp only [bne_iff_ne, ne_eq]
      intro h
      exact hc (UInt8.toNat_inj.1 (by show c.toNat = 37; omega))
    have HI : Hid (∀ W, Calls Tryz.prog 34 #[.string s, .int .i64 4611686018427387904, .bool true] W fun e w' => e = .returned (.bool (begF fBody s.data.toList)) ∧ Below W.heap.size W w') := fun W =>
      escapingBody_any s hs _ (fun e u _ hu => body_hit hu) (fun h => body_miss h) W
    cases block
    · have hr : res = false := by rw [← hres, Bool.false_and]
      subst hr
      clear hres hs0 hsl hc HI
      go_enter Tryz.func23, Tryz.ntmps23
      go_wp2
      all_goals go_ret
      all_goals exact ⟨rfl, Below.refl _ _⟩
    · rw [Bool.true_and] at hres
      rw [hres] at HI
      clear hres hs0 hsl hc
      go_enter Tryz.func23, Tryz.ntmps23
      go_wp2_with fail
      refine (HI.out _).mono ?_
      rintro e w1 ⟨rfl, hb⟩
      go_wp2
      all_goals go_ret
      all_goals exact ⟨rfl, hb⟩

end Go.Proofs.YtplolaondmeccaaGreatDoor
