/-
  The document's lines.
  The document's Events.
  An append to a row of one's own: the row that comes is the old one's block, or a block that was not there.
  The walk of WireReads.
-/
import Derived.Test.YtlgkdnmhoboinaaGreatDoorWAll
import Derived.Test.YtlgkdnmhoboinaaGreatDoorWDeW
import Derived.WalkKit
import Derived.LoopTactic
import Derived.RegionTactic
import Derived.Deep.RegionWith
import Derived.Deep.DrawnRows
import Derived.Deep.RegionHeld3
namespace Go.Proofs.YtlgkdnmhoboinaaGreatDoor
open Go.RowKit
set_option linter.unusedVariables false
set_option maxRecDepth 20000

/-- A list of texts of one's own. -/
def txCells (l : List (List UInt8)) : List Value := l.map fun t => .string (str t)
def TxOwns (w : World) (B : Nat) (v : Value) (l : List (List UInt8)) : Prop := w.ownsRow B 9 1 v l.length (txCells l)
theorem TxOwns.below {w w' : World} {B : Nat} {v : Value} {l : List (List UInt8)} (h : TxOwns w B v l) (hb : Below w.heap.size w w') : TxOwns w' B v l :=
  World.ownsRow.kept (row := none) h ⟨hb.os, hb.tape, hb.output, hb.size, fun k hk _ => hb.block k hk⟩ (by cases v.ownBlock <;> simp)

theorem wpList_append_tx {ops : Array Oper} {rest : List Oper} {o : Oper} {a : Act} {Q : Exit → Act → World → Prop} (w : World) (hgd : o.guard = none) (s x : Operand)
    (ho : o.op = .call { callee := .builtin .append, args := #[s, x], argTypes := #[69, 69] })
    (B : Nat) (v : Value) (l : List (List UInt8)) (e : ByteArray) (t : List UInt8) (het : str t = e) (hs : a.eval s = v) (hown : TxOwns w B v l) (hx : a.eval x = .slice (some ⟨w.heap.size, 0, none⟩) 1 1) (hlen : l.length ≤ 16777216) (hB : B ≤ w.heap.size)
    (h : ∀ v' w', TxOwns w' B v' (l ++ [t]) → Below B w w' → wpList Tryz.prog ops Q rest (a.put o.dst v') w') : wpList Tryz.prog ops Q (o :: rest) a (w.alloc (.cells #[.string e] 9)) := by
  subst het
  obtain ⟨i0, hi, hz0, hz1, hz2⟩ := info_parts info9
  have hown' : (w.alloc (.cells #[.string (str t)] 9)).ownsRow B 9 1 v l.length (txCells l) := World.ownsRow.alloc hown _
  refine wpList_append_own _ hgd s x 69 ho B 9 i0 (.string ⟨#[]⟩) 1 16 Tryz.underlying69 hi hz0 hz1 hz2 rfl (by decide) v l.length (txCells l) hs hown' ⟨w.heap.size, 0, none⟩ 1 1 [.string (str t)] hx rfl ?_ ?_ ?_ ?_ ?_ ?_
  · intro j u hu
    rw [show (⟨w.heap.size, 0, none⟩ : Addr).add j = ⟨w.heap.size, j, none⟩ by unfold Addr.add; split <;> simp_all, cell_at (heap_alloc_new w _)]
    simpa using hu
  · intro u hu
    rw [List.mem_singleton.1 hu]
    rfl
  · unfold maxLen; omega
  · omega
  · rw [size1]; omega
  · intro v' w' h2 h3 _
    refine h v' w' ?_ ?_
    · unfold TxOwns txCells
      rw [List.map_append, List.length_append]
      exact h2
    · refine ((Below.refl B w).alloc hB _).grown h3 (by rw [size1]; omega) (fun k hk => ?_)
      exact (World.ownsRow.lt hown k hk).1

theorem data_at' (s : ByteArray) (k : Nat) (h : k < s.size) : s.data.toList[k]'(by rw [size_data]; exact h) = s[k] := rfl
theorem strBack' (s : ByteArray) : str s.data.toList = s := rfl
theorem extract_mid (s : ByteArray) (a k : Nat) : (s.extract a k).data.toList = (s.data.toList.drop a).take (k - a) := by
  simp [ByteArray.data_extract, Array.toList_extract, List.extract_eq_take_drop]

/-- What lines answers. -/
def LinesPost (L : List UInt8) (w : World) (e : Ending) (w' : World) : Prop := ∃ v, e = .returned (.tuple #[v, .string (str (linesS L).2)]) ∧ TxOwns w' w.heap.size v (linesS L).1 ∧ Below w.heap.size w w'

set_option maxHeartbeats 1000000 in
theorem refLines_any (s : ByteArray) (hs : s.size ≤ 1048576) (w : World) :
    Calls Tryz.prog 36 #[.string s] w (LinesPost s.data.toList w) := by
  obtain ⟨L, hL⟩ : ∃ L, s.data.toList = L := ⟨_, rfl⟩
  have HL : Hid (s.data.toList = L) := hL
  rw [hL]
  clear hL
  go_enter Tryz.func36, Tryz.ntmps36
  go_wp2
  go_loopw [4, 5, 6] (fun u x i wr => ∃ (k a : Nat) (ls : List (List UInt8)), k ≤ s.size ∧ a ≤ k ∧ i = .int .i64 k ∧ x = .int .i64 a ∧ ls.length ≤ k ∧ Hid (linesS L = (ls ++ (linesS (L.drop a)).1, (linesS (L.drop a)).2)) ∧ Hid (¬ (10 : UInt8) ∈ (L.drop a).take (k - a)) ∧ TxOwns wr w.heap.size u ls ∧ Below w.heap.size w wr) (fun _ _ i _ => s.size - (intOf i).toNat)
  case atStart => exact ⟨0, 0, [], Nat.zero_le _, Nat.le_refl _, rfl, rfl, Nat.le_refl _, (show linesS L = ([] ++ (linesS L).1, (linesS L).2) by simp), (show ¬ (10 : UInt8) ∈ L.take 0 by simp), World.ownsRow_nil w _ _ 1, Below.refl _ _⟩
  case round =>
    obtain ⟨k, a, ls, hk, ha, rfl, rfl, hlk, HS, HN, hown, hbl⟩ := hrel
    have HB : Hid (Below w.heap.size w wr) := hbl
    have hBr : w.heap.size ≤ wr.heap.size := hbl.size
    clear hbl
    by_cases hlt : k < s.size
    · by_cases he : ((s[k].toNat : Int) == 10) = true
      · have HOw : Hid (TxOwns wr w.heap.size _ ls) := hown
        have hb10 : s[k] = 10 := UInt8.toNat_inj.1 (by have := eq_of_beq he; show s[k].toNat = 10; omega)
        have hkl : k < L.length := by rw [← HL.out, size_data]; exact hlt
        have hLk : L[k] = 10 := by
          have h1 := data_at' s k hlt
          rw [hb10] at h1
          simp only [HL.out] at h1
          exact h1
        obtain ⟨line, hline⟩ : ∃ x, (L.drop a).take (k - a) = x := ⟨_, rfl⟩
        have hda : L.drop a = line ++ 10 :: L.drop (k + 1) := by
          rw [← hline]
          have h2 := List.take_append_drop (k - a) (L.drop a)
          rw [List.drop_drop, show a + (k - a) = k by omega, List.drop_eq_getElem_cons hkl, hLk] at h2
          exact h2.symm
        have HSt : Hid (linesS L = ((ls ++ [line]) ++ (linesS (L.drop (k + 1))).1, (linesS (L.drop (k + 1))).2)) := by
          show _ = _
          rw [HS.out, hda, linesS_line (by rw [← hline]; exact HN.out)]
          simp
        have HX : Hid (str line = s.extract a k) := by
          show _ = _
          rw [← strBack' (s.extract a k), extract_mid, HL.out, hline]
        have HN' : Hid (¬ (10 : UInt8) ∈ (L.drop (k + 1)).take (k + 1 - (k + 1))) := by
          show ¬ _
          simp
        clear hown hda hline hLk hkl hb10 HS HN
        go_wp2_with (at_builtin; refine wpList_append_tx _ rfl (.tmp 17) (.tmp 22) rfl w.heap.size _ ls (s.extract a k) line HX.out rfl HOw.out rfl (by omega) hBr ?_; intro v2 w2 hown2 hb2)
        go_roundw
        case rel => exact ⟨k + 1, k + 1, ls ++ [line], by omega, Nat.le_refl _, by go_num, by go_num, by simp; omega, HSt, HN', hown2, HB.out.trans hb2⟩
        case measure => simp [intOf]; omega
      · have he' : ((s[k].toNat : Int) == 10) = false := by simpa using he
        have HN' : Hid (¬ (10 : UInt8) ∈ (L.drop a).take (k + 1 - a)) := by
          have hkl : k < L.length := by rw [← HL.out, size_data]; exact hlt
          have hLk : L[k] ≠ 10 := by
            have h1 := data_at' s k hlt
            simp only [HL.out] at h1
            rw [h1]
            intro h
            rw [h] at he'
            exact absurd he' (by decide)
          show ¬ _
          rw [show k + 1 - a = (k - a) + 1 by omega, take_next (l := L.drop a) (a := L[k]) (by rw [List.getElem?_drop, show a + (k - a) = k by omega]; exact List.getElem?_eq_getElem hkl)]
          intro hm
          rcases List.mem_append.1 hm with hm | hm
          · exact HN.out hm
          · exact hLk (List.mem_singleton.1 hm).symm
        have HOw : Hid (TxOwns wr w.heap.size _ ls) := hown
        clear he hown HN
        go_wp2
        go_roundw
        case rel => exact ⟨k + 1, a, ls, by omega, by omega, by go_num, rfl, by omega, HS, HN', HOw.out, HB.out⟩
        case measure => simp [intOf]; omega
    · have hne : ¬ (10 : UInt8) ∈ L.drop a := by
        have := HN.out
        rwa [List.take_of_length_le (by rw [List.length_drop, ← HL.out, size_data]; omega)] at this
      have HSt : Hid (linesS L = (ls, L.drop a)) := by
        show _ = _
        rw [HS.out, linesS_no hne]
        simp
      have HX : Hid (str (L.drop a) = s.extract a s.size) := by
        show _ = _
        rw [← strBack' (s.extract a s.size), Lib.extract_to_end, HL.out]
      have HOw : Hid (TxOwns wr w.heap.size _ ls) := hown
      have ha2 : (a : Int) ≤ (s.size : Int) := by omega
      clear hown hne HS HN
      go_wp2_with fail
      go_region
      all_goals go_wp2
      all_goals go_ret2
      all_goals
        refine ⟨u4, ?_, ?_, HB.out.drew⟩
        · rw [HSt.out, HX.out]
          rfl
        · rw [HSt.out]
          exact HOw.out

end Go.Proofs.YtlgkdnmhoboinaaGreatDoor

namespace Go.Proofs.YtlgkdnmhoboinaaGreatDoor
open Go.RowKit
set_option linter.unusedVariables false
set_option maxRecDepth 20000

theorem TxOwns.cell {w : World} {B : Nat} {v : Value} {l : List (List UInt8)} (h : TxOwns w B v l) {i : Nat} {t : List UInt8} (hi : l[i]? = some t) : ∃ g cap, v = .slice (some ⟨g, 0, none⟩) l.length cap ∧ g < w.heap.size ∧ w.cell? ⟨g, i, none⟩ = some (.string (str t)) := by
  rcases h.2 with ⟨_, h0⟩ | ⟨g, cap, cur, rfl, hg, hb, _, _, _, hc⟩
  · rw [List.eq_nil_of_length_eq_zero h0] at hi
    cases hi
  · refine ⟨g, cap, rfl, lt_of_block hb, ?_⟩
    have hx : (txCells l)[i]? = some (.string (str t)) := by unfold txCells; rw [List.getElem?_map, hi]; rfl
    rw [← hc] at hx
    rw [cell_at hb]
    have hi2 := (List.getElem?_eq_some_iff.1 hi).1
    rw [List.getElem?_take_of_lt (by omega)] at hx
    simpa using hx
theorem TxOwns.shape {w : World} {B : Nat} {v : Value} {l : List (List UInt8)} (h : TxOwns w B v l) : ∃ ad cap, v = .slice ad l.length cap := by
  rcases h.2 with ⟨h1, h0⟩ | ⟨g, cap, cur, h1, _⟩
  · exact ⟨none, 0, by rw [h0]; exact h1⟩
  · exact ⟨_, _, h1⟩

theorem lines_short : ∀ (n : Nat) (l : List UInt8), l.length ≤ n → ∀ t ∈ (linesS l).1, t.length ≤ l.length
  | n, l, hn, t, ht => by
    by_cases h : (10 : UInt8) ∈ l
    · have h1 := rest10 l h
      rw [linesS_yes h] at ht
      rcases List.mem_cons.1 ht with rfl | ht
      · have := congrArg List.length (List.takeWhile_append_dropWhile (p := (· != (10 : UInt8))) (l := l))
        rw [List.length_append] at this
        omega
      · cases n with
        | zero => omega
        | succ n => exact Nat.le_trans (lines_short n _ (by omega) t ht) (by omega)
    · rw [linesS_no h] at ht
      cases ht

theorem EvOwns.lower {w : World} {B B' : Nat} {v : Value} {l : List Ev} (h : EvOwns w B v l) (hB : B' ≤ B) : EvOwns w B' v l :=
  ⟨h.1, h.2.imp id fun ⟨g, cap, cur, a, b, c⟩ => ⟨g, cap, cur, a, Nat.le_trans hB b, c⟩⟩

/-- What Events answers. -/
def EventsPost (L : List UInt8) (w : World) (e : Ending) (w' : World) : Prop := ∃ v, e = .returned (.tuple #[v, .string (str (linesS L).2)]) ∧ EvOwns w' w.heap.size v ((linesS L).1.map decS) ∧ Below w.heap.size w w'

set_option maxHeartbeats 1000000 in
theorem refEvents_any (s : ByteArray) (hs : s.size ≤ 1048576) (w : World) :
    Calls Tryz.prog 18 #[.string s] w (EventsPost s.data.toList w) := by
  obtain ⟨L, hL⟩ : ∃ L, s.data.toList = L := ⟨_, rfl⟩
  have HC := refLines_any s hs w
  have hLl : L.length ≤ 1048576 := by rw [← hL, size_data]; exact hs
  rw [hL] at HC ⊢
  obtain ⟨ls, hls⟩ : ∃ x, (linesS L).1 = x := ⟨_, rfl⟩
  obtain ⟨rs, hrs⟩ : ∃ x, str (linesS L).2 = x := ⟨_, rfl⟩
  have HLs : Hid ((linesS L).1 = ls) := hls
  have HRs : Hid (str (linesS L).2 = rs) := hrs
  have hcount : ls.length ≤ 1048576 := by
    rw [← hls]
    exact Nat.le_trans (linesS_count L.length L (Nat.le_refl _)) hLl
  have HD : Hid (∀ t ∈ ls, t.length ≤ 1048576) := fun t ht => Nat.le_trans (lines_short L.length L (Nat.le_refl _) t (by rw [hls]; exact ht)) hLl
  unfold LinesPost at HC
  rw [hls, hrs] at HC
  have HCl : Hid (Calls Tryz.prog 36 #[.string s] w fun e w' => ∃ v, e = .returned (.tuple #[v, .string rs]) ∧ TxOwns w' w.heap.size v ls ∧ Below w.heap.size w w') := HC
  clear hL HC hls hrs
  go_enter Tryz.func18, Tryz.ntmps18
  go_wp2_with fail
  refine HCl.out.mono ?_
  rintro e w1 ⟨v1, rfl, ho1, hb1⟩
  obtain ⟨ad, cap, hv1⟩ := ho1.shape
  subst hv1
  obtain ⟨m, hm⟩ : ∃ m, ls.length = m := ⟨_, rfl⟩
  have HM : Hid (ls.length = m) := hm
  have HO1 : Hid (TxOwns w1 w.heap.size (.slice ad m cap) ls) := hm ▸ ho1
  have HB1 : Hid (Below w.heap.size w w1) := hb1
  rw [hm] at hcount ⊢
  clear ho1 hb1 hm
  go_wp2
  go_loopw [6, 7] (fun u i wr => ∃ k : Nat, k ≤ m ∧ i = .int .i64 k ∧ EvOwns wr w1.heap.size u ((ls.take k).map decS) ∧ Below w1.heap.size w1 wr) (fun _ i _ => m - (intOf i).toNat)
  case atStart => exact ⟨0, Nat.zero_le _, rfl, evs_nil _ _, Below.refl _ _⟩
  case round =>
    obtain ⟨k, hk, rfl, hown, hbl⟩ := hrel
    have HB : Hid (Below w1.heap.size w1 wr) := hbl
    have hBr : w1.heap.size ≤ wr.heap.size := hbl.size
    have HOw : Hid (EvOwns wr w1.heap.size _ ((ls.take k).map decS)) := hown
    clear hbl hown
    by_cases hlt : k < m
    · obtain ⟨t, ht⟩ : ∃ t, ls[k]? = some t := ⟨_, List.getElem?_eq_getElem (by rw [HM.out]; exact hlt)⟩
      obtain ⟨g, cap2, hv, hg, hcell⟩ := (HO1.out.below HB.out).cell ht
      rw [HM.out] at hv
      cases hv
      obtain ⟨ev, hev⟩ : ∃ x, decS t = x := ⟨_, rfl⟩
      have HNx : Hid ((ls.take (k + 1)).map decS = (ls.take k).map decS ++ [ev]) := by
        show _ = _
        rw [take_next ht, List.map_append, List.map_singleton, hev]
      have htl := HD.out t (List.mem_of_getElem? ht)
      have HDc : Hid (∀ W, Calls Tryz.prog 16 #[.string (str t)] W fun e w' => e = .returned (.agg #[.int .i64 ev.kind, .int .i64 ev.session, .int .i64 ev.window, .int .i64 ev.pane, .int .i64 ev.index, .int .i64 ev.offset, .int .i64 ev.tick, .int .i64 ev.number, .int .i64 ev.flag, .string ev.name, .string ev.text, .string ev.layout, .string ev.visible, .bool ev.zoom]) ∧ Below W.heap.size W w') := fun W => by
        have := refDecode_any (str t) (by rw [str_size]; exact htl) W
        rw [str_data, hev] at this
        exact this
      have hln : ((ls.take k).map decS).length ≤ 16777216 := by rw [List.length_map, List.length_take]; omega
      clear hev ht
      go_wp2_with fail
      refine (HDc.out _).mono ?_
      rintro e w3 ⟨rfl, hb3⟩
      have HB3 : Hid (Below w1.heap.size w1 w3) := below_step HB.out hb3
      have HO3 : Hid (EvOwns w3 w1.heap.size _ ((ls.take k).map decS)) := HOw.out.below hb3
      have hB3 : w1.heap.size ≤ w3.heap.size := HB3.out.size
      clear hb3 hcell hg
      go_wp2_with (at_builtin; refine wpList_append_ev _ rfl (.tmp 19) (.tmp 25) rfl w1.heap.size _ _ ev rfl HO3.out rfl hln hB3 ?_; intro v4 w4 hown4 hb4)
      go_roundw
      case rel => exact ⟨k + 1, by omega, by go_num, by rw [HNx.out]; exact hown4, HB3.out.trans hb4⟩
      case measure => simp [intOf]; omega
    · have hfin : ls.take k = ls := List.take_of_length_le (by rw [HM.out]; omega)
      rw [hfin] at HOw
      clear hfin
      go_wp2
      go_ret2
      refine ⟨u6, ?_, ?_, below_step HB1.out HB.out⟩
      · rw [HRs.out]
        rfl
      · rw [HLs.out]
        exact HOw.out.lower HB1.out.size

end Go.Proofs.YtlgkdnmhoboinaaGreatDoor

namespace Go.Proofs.YtlgkdnmhoboinaaGreatDoor
open Go.RowKit
set_option linter.unusedVariables false

theorem ok_inj {α : Type} {a b : α} {w w' : World} (h : (Result.ok a w : Result α) = .ok b w') : a = b := by cases h; rfl

theorem run_append_sep {P : Program} {w : World} (base : Nat) (t ty e : TypeId) (i : TypeInfo) (z : Value) (size bytes : Nat) (ht : P.underlying t = some (.slice e)) (hi : P.info? e = some i) (hz : i.zero = some z)
    (hsize : i.size = size) (hby : i.bytes = bytes) (hzs : z.cells.size = size) (hsz : 0 < size)
    (v : Value) (n : Nat) (xs : List Value) (hown : w.ownsRow base e size v n xs)
    (a : Addr) (m c : Nat) (news : List Value) (hl : news.length = m * size) (hnews : ∀ j u, news[j]? = some u → w.cell? (a.add j) = some u) (h1 : ∀ u ∈ news, u.oneCell' = true)
    (h63 : n + m ≤ maxLen) (hbytes : (n + m) * bytes ≤ 140737488355328) (hbase : base ≤ w.heap.size) :
    ∃ v' w', (Builtin.append_ #[t, t] ty #[v, .slice (some a) m c]).run P w = .ok v' w' ∧ w'.ownsRow base e size v' (n + m) (xs ++ news) ∧ w.grownBy w' v.ownBlock ∧
      (∀ k, v'.ownBlock = some k → v.ownBlock = some k ∨ w.heap.size ≤ k) := by
  obtain ⟨v', w', hr, ho, hg, _⟩ := run_append_own (P := P) w base t ty e i z size bytes ht hi hz hsize hby hzs hsz v n xs hown a m c news hl hnews h1 h63 hbytes hbase
  refine ⟨v', w', hr, ho, hg, ?_⟩
  rcases hown.2 with ⟨h0, h00⟩ | ⟨g, cap, cur, h0, hbg, hgc, hnc, hcm, hcs, htake⟩
  · obtain ⟨v2, w2, hr2, ho2, _, _⟩ := run_append_own (P := P) w w.heap.size t ty e i z size bytes ht hi hz hsize hby hzs hsz v n xs ⟨hown.1, .inl ⟨h0, h00⟩⟩ a m c news hl hnews h1 h63 hbytes (Nat.le_refl _)
    have hv : v' = v2 := ok_inj (hr.symm.trans hr2)
    subst hv
    exact fun k hk => .inr (ho2.lt k hk).1
  · by_cases hroom : n + m ≤ cap
    · subst hsize
      have hfit : n * i.size + news.length ≤ cur.size := by rw [hl, hcs, ← Nat.add_mul]; exact Nat.mul_le_mul_right _ hroom
      have hr2 := run_append_room (P := P) w t ty e i ht hi g n cap cur hgc a m c news hl hnews h1 hroom hfit
      rw [← h0] at hr2
      have hv := ok_inj (hr.symm.trans hr2)
      intro k hk
      left
      rw [hv] at hk
      rw [h0]
      exact hk
    · subst hsize
      subst hby
      subst h0
      have holds : ∀ j u, xs[j]? = some u → w.cell? ((⟨g, 0, none⟩ : Addr).add j) = some u := hown.cells (g := g) rfl
      have hsmall : n + m ≤ 9223372036854775807 := by simp only [maxLen] at h63; omega
      have hr2 := run_append_grow (P := P) w t ty e i z ht hi hz ⟨g, 0, none⟩ n cap xs hown.1 holds a m c news hl hnews (by omega) (by omega) (growslice_fits (by omega) hbytes)
      have hv := ok_inj (hr.symm.trans hr2)
      intro k hk
      right
      rw [hv] at hk
      cases hk
      exact Nat.le_refl _

end Go.Proofs.YtlgkdnmhoboinaaGreatDoor

namespace Go.Proofs.YtlgkdnmhoboinaaGreatDoor
open Go.RowKit
set_option linter.unusedVariables false
set_option maxRecDepth 20000

/-- A list that may be written over, and beside it one that stays as it is. -/
structure RdW (w wr : World) (B2 : Nat) (v v2 : Value) (n : Nat) (evs : List Ev) : Prop where
  o1 : ∃ xs, wr.ownsRow w.heap.size 28 14 v n xs
  o2 : EvOwns wr B2 v2 evs
  sep : ∀ k, v.ownBlock = some k → v2.ownBlock ≠ some k
  b : Below w.heap.size w wr
theorem RdW.drew {w wr : World} {B2 : Nat} {v v2 : Value} {n : Nat} {evs : List Ev} (h : RdW w wr B2 v v2 n evs) : RdW w wr.drew B2 v v2 n evs := ⟨h.o1, h.o2, h.sep, h.b.drew⟩
theorem RdW.set {w wr : World} {B2 g cap : Nat} {v2 : Value} {n : Nat} {evs : List Ev} (h : RdW w wr B2 (.slice (some ⟨g, 0, none⟩) n cap) v2 n evs) (o : Nat) (u : Value) : RdW w (wr.setCell ⟨g, o, none⟩ u) B2 (.slice (some ⟨g, 0, none⟩) n cap) v2 n evs := by
  obtain ⟨xs, h1⟩ := h.o1
  obtain ⟨h2, h3⟩ := h1.stored o u
  refine ⟨⟨_, h2⟩, h.o2.grown h3 (fun k hk e => ?_), h.sep, h.b.setCell (h1.lt g rfl).1 _⟩
  cases e
  exact h.sep g rfl hk
theorem RdW.has {w wr : World} {B2 g cap : Nat} {v2 : Value} {n : Nat} {evs : List Ev} (h : RdW w wr B2 (.slice (some ⟨g, 0, none⟩) n cap) v2 n evs) (o : Nat) (ho : o < n * 14) : ∃ x, wr.cell? ⟨g, o, none⟩ = some x := by
  obtain ⟨xs, h1⟩ := h.o1
  refine ⟨_, (h1.cellAt o ho).trans (List.getElem?_eq_getElem (by rw [h1.1]; exact ho))⟩
theorem RdW.free {w wr : World} {B2 g cap : Nat} {v2 : Value} {n : Nat} {evs : List Ev} (h : RdW w wr B2 (.slice (some ⟨g, 0, none⟩) n cap) v2 n evs) (o : Nat) : wr.frozen? ⟨g, o, none⟩ = false := by
  obtain ⟨xs, h1⟩ := h.o1
  exact h1.frozenAt o
theorem RdW.shape {w wr : World} {B2 : Nat} {v v2 : Value} {n : Nat} {evs : List Ev} (h : RdW w wr B2 v v2 n evs) (hn : 1 ≤ n) : ∃ g cap, v = .slice (some ⟨g, 0, none⟩) n cap ∧ n ≤ cap := by
  obtain ⟨xs, h1⟩ := h.o1
  rcases h1.2 with ⟨_, h0⟩ | ⟨g, cap, cur, h0, _, _, hc, _⟩
  · omega
  · exact ⟨g, cap, h0, hc⟩
theorem RdW.len {w wr : World} {B2 : Nat} {v v2 : Value} {n : Nat} {evs : List Ev} (h : RdW w wr B2 v v2 n evs) : ∃ ad cap, v = .slice ad n cap := by
  obtain ⟨xs, h1⟩ := h.o1
  rcases h1.2 with ⟨h0, h00⟩ | ⟨g, cap, cur, h0, _⟩
  · exact ⟨none, 0, by rw [h00]; exact h0⟩
  · exact ⟨_, _, h0⟩

theorem wpList_append_rd {ops : Array Oper} {rest : List Oper} {o : Oper} {a : Act} {Q : Exit → Act → World → Prop} (w wr : World) (hgd : o.guard = none) (s x : Operand)
    (ho : o.op = .call { callee := .builtin .append, args := #[s, x], argTypes := #[22, 22] })
    (B2 : Nat) (v v2 : Value) (n : Nat) (evs : List Ev) (e : Ev) (hs : a.eval s = v) (hrd : RdW w wr B2 v v2 n evs) (hx : a.eval x = .slice (some ⟨wr.heap.size, 0, none⟩) 1 1) (hlen : n ≤ 16777216)
    (h : ∀ v' w', RdW w w' B2 v' v2 (n + 1) evs → wpList Tryz.prog ops Q rest (a.put o.dst v') w') : wpList Tryz.prog ops Q (o :: rest) a (wr.alloc (.cells e.vals 28)) := by
  obtain ⟨xs, h1⟩ := hrd.o1
  obtain ⟨i0, hi, hz0, hz1, hz2⟩ := info_parts infoEv
  have hown' : (wr.alloc (.cells e.vals 28)).ownsRow w.heap.size 28 14 v n xs := World.ownsRow.alloc h1 _
  have h2' : EvOwns (wr.alloc (.cells e.vals 28)) B2 v2 evs := World.ownsRow.alloc hrd.o2 _
  refine wpList_plain hgd fun _ hK => ?_
  obtain ⟨v', w', hr, ho2, hg, hsep⟩ := run_append_sep (P := Tryz.prog) (w := wr.alloc (.cells e.vals 28)) w.heap.size 22 o.type 28 i0 (.agg (Ev.zero 0).vals) 14 144 Tryz.underlying22 hi hz0 hz1 hz2 rfl (by decide) v n xs hown' ⟨wr.heap.size, 0, none⟩ 1 1 e.vals.toList rfl
    (by
      intro j u hu
      rw [show (⟨wr.heap.size, 0, none⟩ : Addr).add j = ⟨wr.heap.size, j, none⟩ by unfold Addr.add; split <;> simp_all, cell_at (heap_alloc_new wr _)]
      simpa using hu)
    (by
      intro u hu
      have hu' : u ∈ [Value.int .i64 e.kind, .int .i64 e.session, .int .i64 e.window, .int .i64 e.pane, .int .i64 e.index, .int .i64 e.offset, .int .i64 e.tick, .int .i64 e.number, .int .i64 e.flag, .string e.name, .string e.text, .string e.layout, .string e.visible, .bool e.zoom] := hu
      simp only [List.mem_cons, List.not_mem_nil, or_false] at hu'
      rcases hu' with rfl | rfl | rfl | rfl | rfl | rfl | rfl | rfl | rfl | rfl | rfl | rfl | rfl | rfl <;> rfl)
    (by unfold maxLen; omega) (by omega) (by have := hrd.b.size; rw [size1]; omega)
  unfold Oper.wp execOp
  simp only [ho, resolve, invoke, builtin, Sem.run_bind, Sem.run_pure, Result.andThen_ok, List.map_toArray, List.map_cons, List.map_nil, hs, hx, hr]
  refine hK _ _ (h v' w' ⟨⟨_, ho2⟩, h2'.grown hg (fun k hk e => hrd.sep k e hk), fun k hk e2 => ?_, ?_⟩)
  · rcases hsep k hk with h5 | h5
    · exact hrd.sep k h5 e2
    · have h6 := (World.ownsRow.lt hrd.o2 k e2).2
      rw [size1] at h5
      omega
  · exact (hrd.b.alloc hrd.b.size _).grown hg (by have := hrd.b.size; rw [size1]; omega) (fun k hk => (World.ownsRow.lt h1 k hk).1)

set_option maxHeartbeats 1000000 in
theorem wireReads_walk (a0 : ByteArray) (hsh : a0.size ≤ 1048576) (w : World) (hE : Env w) :
    Calls Tryz.prog 7 #[.string a0] w fun e w' => e = .returned (.bool true) ∧ Below w.heap.size w w' := by
  obtain ⟨L, hL⟩ : ∃ L, a0.data.toList = L := ⟨_, rfl⟩
  have hLl : L.length ≤ 1048576 := by rw [← hL, size_data]; exact hsh
  have hA := events_any a0 (by omega)
  have hR := refEvents_any a0 hsh
  unfold EventsPost at hR
  rw [hL] at hA hR
  obtain ⟨evs, hevs⟩ : ∃ x, (linesS L).1.map decS = x := ⟨_, rfl⟩
  obtain ⟨rs, hrs⟩ : ∃ x, str (linesS L).2 = x := ⟨_, rfl⟩
  rw [hevs, hrs] at hA hR
  have hcount : evs.length ≤ 1048576 := by
    rw [← hevs, List.length_map]
    exact Nat.le_trans (linesS_count L.length L (Nat.le_refl _)) hLl
  have HA : Hid (∀ W, Env W → Calls Tryz.prog 12 #[.string a0] W fun e w' => ∃ v, e = .returned (.tuple #[v, .string rs]) ∧ EvOwns w' W.heap.size v evs ∧ Below W.heap.size W w') := fun W hW => hA W hW
  have HR : Hid (∀ W, Calls Tryz.prog 18 #[.string a0] W fun e w' => ∃ v, e = .returned (.tuple #[v, .string rs]) ∧ EvOwns w' W.heap.size v evs ∧ Below W.heap.size W w') := fun W => hR W
  have HSm : Hid (∀ W B B' v u, EvOwns W B v evs → EvOwns W B' u evs → Calls Tryz.prog 13 #[v, u] W fun e w' => e = .returned (.bool true) ∧ Below W.heap.size W w') := fun W B B' v u hv hu => by
    refine (same_all evs evs (by omega) (by omega) v u W (EvArg.of_owns hv) (EvArg.of_owns hu)).mono ?_
    rintro e w' ⟨r, rfl, hr, hb⟩
    rw [hr.2 rfl]
    exact ⟨rfl, hb⟩
  have HE : Hid (∀ W, Below w.heap.size w W → Env W) := fun W h => hE.below h
  obtain ⟨n, hn⟩ : ∃ n, evs.length = n := ⟨_, rfl⟩
  rw [hn] at hcount
  have HN : Hid (evs.length = n) := hn
  clear hE hA hR hevs hrs hL hn
  go_enter Tryz.func7, Tryz.ntmps7
  go_wp2_with fail
  refine (HA.out _ (HE.out _ (Below.refl _ _))).mono ?_
  rintro e w1 ⟨v1, rfl, ho1, hb1⟩
  have HB1 : Hid (Below w.heap.size w w1) := hb1
  have HO1 : Hid (EvOwns w1 w.heap.size v1 evs) := ho1
  clear ho1 hb1
  go_wp2_with fail
  refine (HR.out _).mono ?_
  rintro e w2 ⟨v2, rfl, ho2, hb2⟩
  have HB2 : Hid (Below w.heap.size w w2) := below_step HB1.out hb2
  have HO2 : Hid (EvOwns w2 w.heap.size v1 evs) := HO1.out.below hb2
  have HP2 : Hid (EvOwns w2 w1.heap.size v2 evs) := ho2
  have HSe : Hid (∀ k, v1.ownBlock = some k → v2.ownBlock ≠ some k) := fun k h1 h2 => by
    have h3 := (World.ownsRow.lt HO1.out k h1).2
    have h4 := (World.ownsRow.lt ho2 k h2).1
    omega
  clear ho2 hb2
  go_wp2_with fail
  refine (HSm.out _ _ _ _ _ HO2.out HP2.out).mono ?_
  rintro e w3 ⟨rfl, hb3⟩
  have HW : Hid (RdW w w3 w1.heap.size v1 v2 n evs) := ⟨⟨evCells evs, by have h := HO2.out.below hb3; unfold EvOwns at h; rw [HN.out] at h; exact h⟩, HP2.out.below hb3, HSe.out, below_step HB2.out hb3⟩
  obtain ⟨ad, cap, hv1⟩ := HW.out.len
  subst hv1
  clear hb3 HO2 HP2 HSe HO1
  go_wp2
  go_loopw [7] (fun i wr => ∃ k : Nat, k ≤ n ∧ i = .int .i64 k ∧ RdW w wr w1.heap.size (.slice ad n cap) v2 n evs) (fun i _ => n - (intOf i).toNat)
  case atStart => exact ⟨0, Nat.zero_le _, rfl, HW.out⟩
  case round =>
    obtain ⟨i, hi, rfl, hrw⟩ := hrel
    by_cases hlt : i < n
    · obtain ⟨g, cap', hv, hnc⟩ := hrw.shape (by omega)
      cases hv
      have HRW : Hid (RdW w wr w1.heap.size (.slice (some ⟨g, 0, none⟩) n cap) v2 n evs) := hrw
      clear hrw HW
      obtain ⟨x0, hx0⟩ := HRW.out.has (i * 14) (by omega)
      have hf0 := HRW.out.free (i * 14)
      obtain ⟨x1, hx1⟩ := HRW.out.has (i * 14 + 1) (by omega)
      have hf1 := HRW.out.free (i * 14 + 1)
      obtain ⟨x2, hx2⟩ := HRW.out.has (i * 14 + 2) (by omega)
      have hf2 := HRW.out.free (i * 14 + 2)
      obtain ⟨x3, hx3⟩ := HRW.out.has (i * 14 + 3) (by omega)
      have hf3 := HRW.out.free (i * 14 + 3)
      obtain ⟨x4, hx4⟩ := HRW.out.has (i * 14 + 4) (by omega)
      have hf4 := HRW.out.free (i * 14 + 4)
      obtain ⟨x5, hx5⟩ := HRW.out.has (i * 14 + 5) (by omega)
      have hf5 := HRW.out.free (i * 14 + 5)
      obtain ⟨x6, hx6⟩ := HRW.out.has (i * 14 + 6) (by omega)
      have hf6 := HRW.out.free (i * 14 + 6)
      obtain ⟨x7, hx7⟩ := HRW.out.has (i * 14 + 7) (by omega)
      have hf7 := HRW.out.free (i * 14 + 7)
      obtain ⟨x8, hx8⟩ := HRW.out.has (i * 14 + 8) (by omega)
      have hf8 := HRW.out.free (i * 14 + 8)
      obtain ⟨x9, hx9⟩ := HRW.out.has (i * 14 + 9) (by omega)
      have hf9 := HRW.out.free (i * 14 + 9)
      obtain ⟨x10, hx10⟩ := HRW.out.has (i * 14 + 10) (by omega)
      have hf10 := HRW.out.free (i * 14 + 10)
      obtain ⟨x11, hx11⟩ := HRW.out.has (i * 14 + 11) (by omega)
      have hf11 := HRW.out.free (i * 14 + 11)
      obtain ⟨x12, hx12⟩ := HRW.out.has (i * 14 + 12) (by omega)
      have hf12 := HRW.out.free (i * 14 + 12)
      obtain ⟨x13, hx13⟩ := HRW.out.has (i * 14 + 13) (by omega)
      have hf13 := HRW.out.free (i * 14 + 13)
      go_wp2
      go_roundw
      case rel => exact ⟨i + 1, by omega, by go_num, ((((((((((((((HRW.out).set (i * 14) (.int .i64 (-1 - (i : Int)))).set (i * 14 + 1) (.int .i64 0)).set (i * 14 + 2) (.int .i64 0)).set (i * 14 + 3) (.int .i64 0)).set (i * 14 + 4) (.int .i64 0)).set (i * 14 + 5) (.int .i64 0)).set (i * 14 + 6) (.int .i64 0)).set (i * 14 + 7) (.int .i64 0)).set (i * 14 + 8) (.int .i64 0)).set (i * 14 + 9) (.string ⟨#[]⟩)).set (i * 14 + 10) (.string ⟨#[]⟩)).set (i * 14 + 11) (.string ⟨#[]⟩)).set (i * 14 + 12) (.string ⟨#[]⟩)).set (i * 14 + 13) (.bool false)⟩
      case measure => simp [intOf]; omega
    · have HRW : Hid (RdW w wr w1.heap.size (.slice ad n cap) v2 n evs) := hrw
      clear hrw HW
      go_wp2
      go_loopw [3, 8] (fun u i wr => ∃ k : Nat, k ≤ 64 ∧ i = .int .i64 k ∧ RdW w wr w1.heap.size u v2 (n + k) evs) (fun _ i _ => 64 - (intOf i).toNat)
      case atStart => exact ⟨0, Nat.zero_le _, rfl, HRW.out⟩
      case round =>
        obtain ⟨k, hk, rfl, hrw2⟩ := hrel
        have HR2 : Hid (RdW w wr w1.heap.size _ v2 (n + k) evs) := hrw2
        clear hrw2 HRW
        by_cases hlt2 : k < 64
        · go_wp2_with (at_builtin; refine wpList_append_rd w _ rfl (.tmp 46) (.tmp 50) rfl w1.heap.size _ v2 (n + k) evs (Ev.zero (-1000 - (k : Int))) rfl HR2.out rfl (by omega) ?_; intro v' w' hrd')
          go_roundw
          case rel => exact ⟨k + 1, by omega, by go_num, hrd'⟩
          case measure => simp [intOf]; omega
        · have HBw : Hid (Below w.heap.size w wr) := HR2.out.b
          have HO2 : Hid (EvOwns wr w1.heap.size v2 evs) := HR2.out.o2
          clear HR2
          go_wp2_with fail
          refine (HA.out _ (HE.out _ HBw.out)).mono ?_
          rintro e w5 ⟨v5, rfl, ho5, hb5⟩
          have HB5 : Hid (Below w.heap.size w w5) := below_step HBw.out hb5
          have HO5 : Hid (EvOwns w5 w1.heap.size v2 evs) := HO2.out.below hb5
          have HP5 : Hid (EvOwns w5 wr.heap.size v5 evs) := ho5
          clear hb5 ho5
          go_wp2_with fail
          refine (HSm.out _ _ _ _ _ HP5.out HO5.out).mono ?_
          rintro e w6 ⟨rfl, hb6⟩
          have HB6 : Hid (Below w.heap.size w w6) := below_step HB5.out hb6
          clear hb6
          go_wp2_with fail
          refine (sure_any _ (HE.out _ HB6.out)).mono ?_
          rintro e w7 ⟨rfl, hb7⟩
          have HB7 : Hid (Below w.heap.size w w7) := below_step HB6.out hb7
          clear hb7
          go_wp2
          go_ret
          exact ⟨rfl, HB7.out⟩

end Go.Proofs.YtlgkdnmhoboinaaGreatDoor
