/-
  The document's queue: Drain.
-/
import Derived.Test.YtkpnolkbheoocaaQRefF
import Derived.WalkKit
import Derived.Deep.RegionLaw
namespace Go.Proofs.Ytkpnolkbheoocaa
open Go.RowKit
set_option linter.unusedVariables false
set_option maxRecDepth 100000

/-- What is left of some items when so many bytes are taken. -/
def leftI : List Item → Nat → List Item
  | [], _ => []
  | i :: l, n => if n < i.x.length then ⟨i.x.drop n, i.o⟩ :: l else leftI l (n - i.x.length)
/-- .. as the document walks: item by item. -/
def stepI (n : Nat) (s : List UInt8 × List Item) (i : Item) : List UInt8 × List Item :=
  (s.1 ++ i.x.take (n - s.1.length), if n - s.1.length < i.x.length then s.2 ++ [⟨i.x.drop (n - s.1.length), i.o⟩] else s.2)
def walkI (n : Nat) (l : List Item) : List UInt8 × List Item := l.foldl (stepI n) ([], [])
theorem walkI_snoc (n : Nat) (l : List Item) (i : Item) : walkI n (l ++ [i]) = stepI n (walkI n l) i := by unfold walkI; rw [List.foldl_append]; rfl
theorem walkI_ok (n : Nat) (l : List Item) (hp : ∀ i ∈ l, 0 < i.x.length) : (walkI n l).1 = (textsI l).take n ∧ (∀ i ∈ (walkI n l).2, 0 < i.x.length) ∧ textsI (walkI n l).2 = (textsI l).drop n ∧ spread Item.o (fun i => i.x.length) (walkI n l).2 = (spread Item.o (fun i => i.x.length) l).drop n ∧ (walkI n l).2.length ≤ l.length := by
  have key : ∀ k, k ≤ l.length → (walkI n (l.take k)).1 = (textsI (l.take k)).take n ∧ (∀ i ∈ (walkI n (l.take k)).2, 0 < i.x.length) ∧ textsI (walkI n (l.take k)).2 = (textsI (l.take k)).drop n ∧ spread Item.o (fun i => i.x.length) (walkI n (l.take k)).2 = (spread Item.o (fun i => i.x.length) (l.take k)).drop n ∧ (walkI n (l.take k)).2.length ≤ k := by
    intro k
    induction k with
    | zero => intro _; exact ⟨by simp [walkI, textsI], (fun i hi => by simp [walkI] at hi), by simp [walkI, textsI], by simp [walkI, spread], by simp [walkI]⟩
    | succ k ih =>
      intro hk
      obtain ⟨h1, h2, h3, h4, h5⟩ := ih (by omega)
      obtain ⟨i, hi⟩ : ∃ i, l[k]? = some i := ⟨_, List.getElem?_eq_getElem (by omega)⟩
      have hip := hp i (List.mem_of_getElem? hi)
      have ht : l.take (k + 1) = l.take k ++ [i] := by rw [List.take_add_one, hi]; rfl
      have hl1 : (walkI n (l.take k)).1.length = min n (textsI (l.take k)).length := by rw [h1, List.length_take]
      have hsp : (spread Item.o (fun i => i.x.length) (l.take k)).length = (textsI (l.take k)).length := (texts_len _).symm
      rw [ht, walkI_snoc]
      unfold stepI
      simp only []
      rw [hl1, texts_snoc, spread_append]
      have hs1 : spread Item.o (fun i => i.x.length) [i] = List.replicate i.x.length i.o := by simp [spread]
      rw [hs1]
      by_cases hn : n ≤ (textsI (l.take k)).length
      · rw [Nat.min_eq_left hn, Nat.sub_self, if_pos hip]
        refine ⟨by rw [h1, List.take_zero, List.append_nil, List.take_append_of_le_length hn], fun x hx => ?_, ?_, ?_, by rw [List.length_append]; simp; omega⟩
        · rcases List.mem_append.1 hx with hx | hx
          · exact h2 x hx
          · rw [List.mem_singleton.1 hx]
            simpa using hip
        · rw [texts_snoc, h3, List.drop_append_of_le_length hn, List.drop_zero]
        · rw [spread_append, h4, List.drop_append_of_le_length (by omega)]
          simp [spread]
      · rw [Nat.min_eq_right (by omega)]
        obtain ⟨m, hm⟩ : ∃ m, n - (textsI (l.take k)).length = m := ⟨_, rfl⟩
        have hd : textsI (walkI n (l.take k)).2 = [] := by rw [h3, List.drop_eq_nil_of_le (by omega)]
        have hd2 : spread Item.o (fun i => i.x.length) (walkI n (l.take k)).2 = [] := by rw [h4, List.drop_eq_nil_of_le (by omega)]
        have hd3 : (walkI n (l.take k)).2 = [] := by
          have := spread_few (o := Item.o) (n := fun i => i.x.length) h2
          rw [hd2] at this
          exact List.length_eq_zero_iff.1 (by simpa using this)
        rw [hm, hd3, h1]
        have hdA : (textsI (l.take k)).drop n = [] := List.drop_eq_nil_of_le (by omega)
        have hdS : (spread Item.o (fun i => i.x.length) (l.take k)).drop n = [] := List.drop_eq_nil_of_le (by omega)
        refine ⟨?_, fun x hx => ?_, ?_, ?_, ?_⟩
        · rw [List.take_append, List.take_of_length_le (by omega), hm]
        · split at hx
          · rename_i hc
            simp at hx
            subst hx
            simp
            omega
          · cases hx
        · rw [List.drop_append, hdA, hm, List.nil_append]
          split
          · simp [textsI]
          · rename_i hc
            rw [List.drop_eq_nil_of_le (by omega)]
            rfl
        · rw [List.drop_append, hdS, hsp, hm, List.nil_append, List.drop_replicate]
          split
          · simp [spread]
          · rename_i hc
            rw [show i.x.length - m = 0 by omega]
            rfl
        · split <;> simp
  have h := key l.length (Nat.le_refl _)
  rwa [List.take_length] at h

theorem str_append (a b : List UInt8) : str a ++ str b = str (a ++ b) := by
  apply ByteArray.ext
  simp [str]
theorem str_cut (l : List UInt8) (j : Nat) (h : j ≤ l.length) : (str l).extract 0 j = str (l.take j) ∧ (str l).extract j (str l).size = str (l.drop j) := by
  constructor
  · apply ByteArray.ext
    apply Array.ext'
    rw [ByteArray.data_extract, Array.toList_extract, List.extract_eq_take_drop]
    simp [str]
  · apply ByteArray.ext
    apply Array.ext'
    rw [ByteArray.data_extract, Array.toList_extract, List.extract_eq_take_drop]
    show ((l.drop j).take (l.length - j)) = l.drop j
    exact List.take_of_length_le (by rw [List.length_drop]; omega)

set_option maxHeartbeats 4000000 in
theorem refDrain_any {w : World} {vi : Value} {its : List Item} {q : Qs} (n : Int) (h : RIn w vi its q) (hq : q.Ok) (h1 : -9223372036854775808 ≤ n) (h2 : n ≤ 9223372036854775807) :
    Calls Try.prog 39 #[refV q vi, .int .i64 n] w fun e w' => ∃ vi', e = .returned (.tuple #[.string (str (q.bs.take n.toNat)), refV (drainQ q n.toNat) vi']) ∧ RWent w w' vi vi' (drainQ q n.toNat) := by
  obtain ⟨ai, ni, ci, hvi, hni, hcell⟩ := h.shape
  subst hvi
  obtain ⟨W0, hW0⟩ : ∃ W0, (w.alloc (.cells #[.int .i64 (q.lim : Int), .slice ai ni ci, .bool q.cl] 26)).alloc (.cells #[.int .i64 0, .slice none 0 0, .bool false] 26) = W0 := ⟨_, rfl⟩
  obtain ⟨N0, hN0⟩ : ∃ N0, w.heap.size = N0 := ⟨_, rfl⟩
  have HC : Hid (RCall w W0 N0 (q.lim : Int) (.slice ai ni ci) q.cl) := by show RCall _ _ _ _ _ _; rw [← hW0, ← hN0]; exact RCall.start _ _ _ _
  have HW0 : Hid ((w.alloc (.cells #[.int .i64 (q.lim : Int), .slice ai ni ci, .bool q.cl] 26)).alloc (.cells #[.int .i64 0, .slice none 0 0, .bool false] 26) = W0) := hW0
  have HN0 : Hid (w.heap.size = N0) := hN0
  have hfew := hq.few
  have hlen := h.few hq
  have HR : Hid (RIn w (.slice ai ni ci) its q) := h
  have HN : Hid (its.length = ni) := hni
  obtain ⟨L, hL⟩ : ∃ L, q.bs.length = L := ⟨_, rfl⟩
  have HL : Hid (q.bs.length = L) := hL
  rw [hL] at hfew
  rw [hni] at hlen
  have HCe : Hid (∀ W, Below W0.heap.size W0 W → ∀ (i : Nat) (p : Item), its[i]? = some p → ∃ g o, ai = some ⟨g, o, none⟩ ∧ W.cell? ⟨g, o + i * 3, none⟩ = some (.string (str p.x)) ∧ W.cell? ⟨g, o + i * 3 + 1, none⟩ = some (.int .i64 p.o.1) ∧ W.cell? ⟨g, o + i * 3 + 2, none⟩ = some (.int .i64 p.o.2)) := fun W hW => hcell W (HC.out.at hW).2.2.2.2
  unfold refV
  show Calls _ _ _ _ (fun e w' => ∃ vi', e = .returned (.tuple #[.string (str (q.bs.take n.toNat)), .agg #[.int .i64 (q.lim : Int), vi', .bool q.cl]]) ∧ RWent w w' (.slice ai ni ci) vi' (drainQ q n.toNat))
  clear hcell hni hL hW0 hN0 h
  go_enter Try.func39, Try.ntmps39
  go_wp2_with fail
  rw [HW0.out, HN0.out]
  obtain ⟨N, hN⟩ : ∃ N, n.toNat = N := ⟨_, rfl⟩
  have HNn : Hid (n.toNat = N) := hN
  go_loopw [6, 7, 8] (fun s6 s7 s8 wr => ∃ i : Nat, i ≤ ni ∧ s8 = .int .i64 i ∧ s6 = .string (str (walkI N (its.take i)).1) ∧ Hid (Mine W0 wr 68 3 s7 (walkI N (its.take i)).2.length (itsV (walkI N (its.take i)).2))) (fun _ _ v _ => ni - (intOf v).toNat)
  case atStart => exact ⟨0, Nat.zero_le _, rfl, rfl, Mine.nil (Below.refl _ _)⟩
  case round =>
    obtain ⟨i, hi, rfl, rfl, HM⟩ := hrel
    obtain ⟨si, hsi⟩ : ∃ si, u7 = si := ⟨_, rfl⟩
    rw [hsi] at HM ⊢
    clear hsi
    obtain ⟨p0, p1, p2, -, -⟩ := HC.out.at HM.out.below
    by_cases hlt : i < ni
    · obtain ⟨p, hp⟩ : ∃ p, its[i]? = some p := ⟨_, List.getElem?_eq_getElem (by rw [HN.out]; exact hlt)⟩
      obtain ⟨g, o, rfl, q0, q1, q2⟩ := HCe.out wr HM.out.below i p hp
      have hpp := HR.out.pos p (List.mem_of_getElem? hp)
      have hw := walkI_ok N (its.take i) (fun x hx => HR.out.pos x (List.mem_of_mem_take hx))
      have HT : Hid (walkI N (its.take (i + 1)) = stepI N (walkI N (its.take i)) p) := by show _ = _; rw [List.take_add_one, hp]; exact walkI_snoc _ _ _
      have hOL : (walkI N (its.take i)).1.length + p.x.length ≤ L := by
        have h3 := texts_take its (i + 1)
        rw [List.take_add_one, hp] at h3
        have h4 : (textsI (its.take i ++ [p])).length ≤ (textsI its).length := h3
        rw [texts_snoc, HR.out.bs, HL.out, List.length_append] at h4
        rw [hw.1, List.length_take]
        omega
      have hcnt : (walkI N (its.take i)).2.length ≤ ni := by
        have h3 := hw.2.2.2.2
        rw [List.length_take] at h3
        omega
      obtain ⟨⟨O, I⟩, hOI⟩ : ∃ s, walkI N (its.take i) = s := ⟨_, rfl⟩
      rw [hOI] at HM hOL hcnt HT ⊢
      obtain ⟨px, ⟨a, t⟩⟩ := p
      obtain ⟨z, hz⟩ : ∃ z, str px = z := ⟨_, rfl⟩
      obtain ⟨zo, hzo⟩ : ∃ zo, str O = zo := ⟨_, rfl⟩
      have hzs : px.length = z.size := by rw [← hz]; rfl
      have hzos : O.length = zo.size := by rw [← hzo]; rfl
      have q0' : wr.cell? ⟨g, o + i * 3, none⟩ = some (.string z) := by rw [← hz]; exact q0
      have q1' : wr.cell? ⟨g, o + i * 3 + 1, none⟩ = some (.int .i64 a) := q1
      have q2' : wr.cell? ⟨g, o + i * 3 + 2, none⟩ = some (.int .i64 t) := q2
      have hOL' : zo.size + z.size ≤ L := by rw [← hzs, ← hzos]; exact hOL
      have hpp' : 0 < z.size := by rw [← hzs]; exact hpp
      have HOO : Hid (str O = zo) := hzo
      have HZz : Hid (str px = z) := hz
      have HCut : Hid (∀ j, j ≤ z.size → z.extract 0 j = str (px.take j) ∧ z.extract j z.size = str (px.drop j)) := fun j hj => by rw [← hz]; exact str_cut px j (by rw [hzs]; exact hj)
      have HSt : Hid (∀ j, j = min (N - zo.size) z.size → (stepI N (O, I) ⟨px, (a, t)⟩).1 = O ++ px.take j ∧ (j < z.size → (stepI N (O, I) ⟨px, (a, t)⟩).2 = I ++ [⟨px.drop j, (a, t)⟩]) ∧ (¬ j < z.size → (stepI N (O, I) ⟨px, (a, t)⟩).2 = I)) := fun j hj => by
        subst hj
        unfold stepI
        simp only [hzos, hzs]
        by_cases hc : N - zo.size < z.size
        · rw [Nat.min_eq_left (by omega)]
          exact ⟨rfl, fun _ => by rw [if_pos hc], fun hh => absurd hc hh⟩
        · rw [Nat.min_eq_right (by omega), if_neg hc]
          refine ⟨?_, fun hh => by omega, fun _ => rfl⟩
          rw [List.take_of_length_le (by omega), List.take_of_length_le (by omega)]
      simp only [] at hcnt
      show Code.wp _ _ _ _ _
      rw [hzo]
      clear hp hOI hw q0 q1 q2 hz hzo hzs hzos hOL hpp
      by_cases hbig : (zo.size : Int) < n
      · have hnN : n = (N : Int) := by have := HNn.out; omega
        subst hnN
        obtain ⟨K, hK⟩ : ∃ K, min (N - zo.size) z.size = K := ⟨_, rfl⟩
        obtain ⟨HK1, HK2a, HK2b⟩ := HSt.out K hK.symm
        have dm : min ((N : Int) - (zo.size : Int)) (z.size : Int) = (K : Int) := by omega
        have hKz : K ≤ z.size := by omega
        by_cases hKl : K < z.size
        · have HK2 := HK2a hKl
          have dK : (K : Int) < (z.size : Int) := by omega
          clear HK2a HK2b HSt
          have HM1 := HM
          go_wp2_with fail
          go_region_law (refine step_append_row _ rfl _ _ 24 24 rfl underIts infoIt rfl (v := si) (by simp [Act.eval]) (u := .slice (some ⟨wr.heap.size + 1, 0, none⟩) 1 1) (by simp [Act.eval]) (HM1.out.row.below (heap_two wr _ _).2.2.2.drew) (Src.block underIts _ _ (itV ⟨px.drop K, (a, t)⟩) _ 3 (by show _ = _; unfold itV; rw [← (HCut.out K (by omega)).2]; exact (heap_two wr _ _).2.1) rfl rfl) (by omega) (by unfold maxLen; omega) ?_; intro v2 w2 hr2 hg2; have HM2 : Hid (Mine W0 w2 68 3 v2 (walkI N (its.take (i + 1))).2.length (itsV (walkI N (its.take (i + 1))).2)) := (HM1.out.grown (heap_two wr _ _).2.2.2.drew hr2.out hg2.out).cast (by rw [HT.out, HK2]; simp) (by rw [HT.out, HK2, its_snoc]); clear hr2 hg2)
          all_goals (
            go_wp2
            go_roundw
            case rel => exact ⟨i + 1, by omega, by go_num, by rw [HT.out, HK1, ← str_append, HOO.out, ← (HCut.out K (by omega)).1], HM2⟩
            case measure => simp [intOf]; omega)
        · have HK2 := HK2b hKl
          have hKe : K = z.size := by omega
          have dK : ¬ (K : Int) < (z.size : Int) := by omega
          clear HK2a HK2b HSt
          have HtK : Hid (str (px.take K) = z) := by
            show _ = _
            rw [← (HCut.out K (by omega)).1, hKe]
            exact ByteArray.extract_zero_size
          have HM2 : Hid (∀ ob, Mine W0 (wr.alloc ob) 68 3 si (walkI N (its.take (i + 1))).2.length (itsV (walkI N (its.take (i + 1))).2)) := fun ob => (HM.out.more ((Below.refl _ _).alloc (Nat.le_refl _) _)).cast (by rw [HT.out, HK2]) (by rw [HT.out, HK2])
          go_wp2_with fail
          go_roundw
          case rel => exact ⟨i + 1, by omega, by go_num, by rw [HT.out, HK1, ← str_append, HOO.out, HtK.out], HM2.out _⟩
          case measure => simp [intOf]; omega
      · obtain ⟨HK1, HK2a, -⟩ := HSt.out 0 (by have := HNn.out; omega)
        have HK2 := HK2a hpp'
        have dK : (0 : Int) < (z.size : Int) := by omega
        clear HSt HK2a
        simp only [List.drop_zero, List.take_zero, List.append_nil] at HK1 HK2
        have HM1 := HM
        go_wp2_with fail
        go_region_law (refine step_append_row _ rfl _ _ 24 24 rfl underIts infoIt rfl (v := si) (by simp [Act.eval]) (u := .slice (some ⟨wr.heap.size + 1, 0, none⟩) 1 1) (by simp [Act.eval]) (HM1.out.row.below (heap_two wr _ _).2.2.2.drew) (Src.block underIts _ _ (itV ⟨px, (a, t)⟩) _ 3 (by show _ = _; unfold itV; rw [HZz.out]; exact (heap_two wr _ _).2.1) rfl rfl) (by omega) (by unfold maxLen; omega) ?_; intro v2 w2 hr2 hg2; have HM2 : Hid (Mine W0 w2 68 3 v2 (walkI N (its.take (i + 1))).2.length (itsV (walkI N (its.take (i + 1))).2)) := (HM1.out.grown (heap_two wr _ _).2.2.2.drew hr2.out hg2.out).cast (by rw [HT.out, HK2]; simp) (by rw [HT.out, HK2, its_snoc]); clear hr2 hg2)
        all_goals (
          go_wp2
          go_roundw
          case rel => exact ⟨i + 1, by omega, by go_num, by rw [HT.out, HK1, HOO.out], HM2⟩
          case measure => simp [intOf]; omega)
    · obtain rfl : i = ni := by omega
      have htk : its.take i = its := List.take_of_length_le (by rw [HN.out]; omega)
      rw [htk] at HM ⊢
      obtain ⟨w1, w2, w3, w4, w5⟩ := walkI_ok N its HR.out.pos
      obtain ⟨a3, c3, hsl, -, -, -, -⟩ := HM.out.row.shape
      obtain ⟨-, -, -, pz, -⟩ := HC.out.at HM.out.below
      obtain ⟨z0, z1, z2, zf⟩ := res_cells pz
      obtain ⟨M, hM⟩ : ∃ M, (walkI N its).2.length = M := ⟨_, rfl⟩
      subst hsl
      have hx1 : (walkI N its).1 = q.bs.take n.toNat := by rw [w1, HR.out.bs, HNn.out]
      rw [hx1]
      have HFin : Hid (RWent w (((wr.drew.setCell ⟨N0 + 1, 0, none⟩ (.int .i64 (q.lim : Int))).setCell ⟨N0 + 1, 1, none⟩ (.slice a3 M c3)).setCell ⟨N0 + 1, 2, none⟩ (.bool q.cl)) (.slice ai i ci) (.slice a3 M c3) (drainQ q n.toNat)) := by
        obtain ⟨-, -, -, k4, k5⟩ := HC.out.at HM.out.below.drew
        have ST := stored3 (x := .int .i64 (q.lim : Int)) (y := .slice a3 M c3) (z := .bool q.cl) k4
        have hs := HC.out.size
        have hn := HN0.out
        have hy := HM.out.young
        have hrow := HM.out.row
        rw [hM] at hy hrow
        refine ⟨(walkI N its).2, ⟨by rw [hM]; exact hrow.keep fun g hg => ST.2.1 g (fun e => by have := hy g hg; omega), w2, ?_, ?_⟩, k5.trans (ST.2.2 _ (by omega)), fun g hg => .inr (by have := hy g hg; omega)⟩
        · rw [w3, HR.out.bs, ← HNn.out]
          rfl
        · rw [w4, HR.out.os, ← HNn.out]
          rfl
      rw [hM]
      obtain ⟨tx, htx⟩ : ∃ tx, str (q.bs.take n.toNat) = tx := ⟨_, rfl⟩
      rw [htx]
      clear w1 w2 w3 w4 w5 hx1 pz htk HM hM
      go_wp2_with fail
      go_region
      all_goals go_wp2_with fail
      all_goals refine bodyPost_ret (v := .tuple #[.string tx, .agg #[.int .i64 (q.lim : Int), .slice a3 M c3, .bool q.cl]]) (by simp [results, Try.results39, go_sem, z0, z1, z2]) rfl ?_
      all_goals exact ⟨_, by rw [htx], HFin.out⟩

end Go.Proofs.Ytkpnolkbheoocaa
