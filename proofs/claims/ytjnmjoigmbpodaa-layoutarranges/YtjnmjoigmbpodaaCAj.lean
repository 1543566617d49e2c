/-
  Layouts: Arrange in the program, as a whole.
-/
import Derived.Test.YtjnmjoigmbpodaaCAg
namespace Go.Proofs.Ytjnmjoigmbpodaa
open Go.RowKit
set_option linter.unusedVariables false
set_option maxRecDepth 100000

theorem IOwns.ids {w : World} {B : Nat} {v : Value} {zs : List Int} (h : IOwns w B v zs) (hne : zs ≠ []) : IdsIn w v zs := by
  rcases h.2 with ⟨_, h0⟩ | ⟨g, cap, cur, e, hb, hg, h1, h2, h3, h4⟩
  · exact absurd (List.length_eq_zero_iff.1 h0) hne
  · refine ⟨g, 0, cap, e, h1, fun i z hz => ?_⟩
    rw [Nat.zero_add, cell_atL hg i]
    have h5 : (zs.map (Value.int .i64))[i]? = some (.int .i64 z) := by rw [List.getElem?_map, hz]; rfl
    rw [← h4, List.getElem?_take] at h5
    split at h5
    · simpa using h5
    · cases h5
/-- What Arrange starts from. -/
structure ArrOf (l : List CellV) (t : Tree) (b : Box) : Prop where
  lay : IsLay l t
  head : ∃ c r, l = c :: r ∧ c.w = b.w ∧ c.h = b.h
  box : b = ⟨0, 0, t.box.w, t.box.h⟩
  sides : (1 ≤ b.w ∧ b.w ≤ 1000) ∧ (1 ≤ b.h ∧ b.h ≤ 1000)
  ids : ∀ z ∈ idsOf l, idB z = true
  few : (idsOf l).length ≤ 32
  some : 1 ≤ (idsOf l).length
theorem arr_of {l : List CellV} {t : Tree} (h : readF l = some t) : ArrOf l t ⟨0, 0, t.box.w, t.box.h⟩ := by
  have hl := readF_lay h
  have hs := t.sound_sides hl.sound
  refine ⟨hl, ?_, rfl, hs, fun z hz => ?_, (few_len hl.few).1, ?_⟩
  · have ht := hl.tell
    cases t with
    | leaf b p => exact ⟨_, _, ht.symm, rfl, rfl⟩
    | split b k ts => exact ⟨_, _, ht.symm, rfl, rfl⟩
  · have h2 := ids_told t 0 hl.kinds
    rw [hl.tell] at h2
    rw [← h2] at hz
    exact sound_ids t hl.kinds hl.sound z hz
  · have h1 := size_ids t hl.kinds hl.sound
    rw [ids_told t 0 hl.kinds, hl.tell] at h1
    have : 1 ≤ t.size := by cases t <;> (unfold Tree.size; omega)
    omega
theorem arrP_none (v : Value) (l : List CellV) (how sz : Int) (w : World) (h : CellsIn w v l) (hF : readF l = none) : Calls Try.prog 14 #[v, .int .i64 how, .int .i64 sz] w (Ans2 40 [] w) := by
  have HR : Hid (Calls Try.prog 16 #[v] w fun e w' => e = .returned nilPart ∧ Below w.heap.size w w') := read_no v l w h hF
  unfold nilPart at HR
  clear hF h
  go_enter Try.func14, Try.ntmps14
  go_wp2_with fail
  refine HR.out.mono ?_
  rintro e w1 ⟨rfl, hb⟩
  have HB : Hid (Below w.heap.size w w1) := hb
  clear hb
  go_wp2
  refine bodyPost_ret (v := .tuple #[.slice none 0 0, .int .i64 40]) (by simp [results, Try.results14, go_sem]) rfl ?_
  exact ⟨_, rfl, World.ownsRow_nil _ _ _ _, HB.out⟩
theorem arrP_arg (v : Value) (l : List CellV) (how sz : Int) (w : World) (h : CellsIn w v l) {t : Tree} (hF : readF l = some t) (hh : ¬ (1 ≤ how ∧ how ≤ 5)) : Calls Try.prog 14 #[v, .int .i64 how, .int .i64 sz] w (Ans2 1 [] w) := by
  have HR : Hid (Calls Try.prog 16 #[v] w (ReadYes t w)) := read_yes v l w h hF
  clear hF h
  by_cases h1 : how < 1
  · have d1 : decide (how < (1 : Int)) = true := decide_eq_true h1
    go_enter Try.func14, Try.ntmps14
    go_wp2_with fail
    refine HR.out.mono ?_
    rintro e w1 ⟨T, g, fp, rfl, _, _, _, hb⟩
    have HB : Hid (Below w.heap.size w w1) := hb
    clear hb
    go_wp2
    refine bodyPost_ret (v := .tuple #[.slice none 0 0, .int .i64 1]) (by simp [results, Try.results14, go_sem]) rfl ?_
    exact ⟨_, rfl, World.ownsRow_nil _ _ _ _, HB.out⟩
  · have d1 : decide (how < (1 : Int)) = false := decide_eq_false h1
    have d2 : decide ((5 : Int) < how) = true := decide_eq_true (by omega)
    go_enter Try.func14, Try.ntmps14
    go_wp2_with fail
    refine HR.out.mono ?_
    rintro e w1 ⟨T, g, fp, rfl, _, _, _, hb⟩
    have HB : Hid (Below w.heap.size w w1) := hb
    clear hb
    go_wp2
    refine bodyPost_ret (v := .tuple #[.slice none 0 0, .int .i64 1]) (by simp [results, Try.results14, go_sem]) rfl ?_
    exact ⟨_, rfl, World.ownsRow_nil _ _ _ _, HB.out⟩
/-- What is answered of a tree that was made. -/
def ArrAns (T : Tree) (w : World) (e : Ending) (w' : World) : Prop := if T.sound = true then Ans2 0 (laidL T) w e w' else Ans2 44 [] w e w'
/-- What is left to be done with a tree. -/
structure LeftOf (T : Tree) (w w3 : World) (Ty : TypeId) (g : Nat) (Fs : FuncId) : Prop where
  mS : ∀ W, (method 263 Ty (.pointer (some ⟨g, 0, none⟩)) "mullion/layout.sound").run Try.prog W = .ok (Fs, .pointer (some ⟨g, 0, none⟩)) W
  fS : ∀ a W, (callFunc Fs #[a]).run Try.prog W = .ok (.enter Fs #[a]) W
  cS : Calls Try.prog Fs #[.pointer (some ⟨g, 0, none⟩)] w3 fun e w4 => e = .returned (.bool T.sound) ∧ Below w.heap.size w w4 ∧ (T.sound = true → Calls Try.prog 23 #[.iface Ty (.pointer (some ⟨g, 0, none⟩))] w4 fun e w5 => ∃ u, e = .returned u ∧ CeOwns w5 w.heap.size u (laidL T) ∧ Below w.heap.size w w5)
theorem left_of {T : Tree} {w w3 : World} {Ty : TypeId} {g : Nat} {fp : List Nat} (hA : T.At w3 0 (.iface Ty (.pointer (some ⟨g, 0, none⟩))) fp) (hnd : fp.Nodup) (hge : ∀ q ∈ fp, w.heap.size ≤ q) (hb : Below w.heap.size w w3) (hk : T.kinds) (hz : T.size ≤ 200) : ∃ Fs, LeftOf T w w3 Ty g Fs := by
  obtain ⟨T', gi, Fs, Fa, hp⟩ := hA.partS (kinds_fine T hk hz)
  have e := hp.val
  cases e
  refine ⟨Fs, hp.mS, hp.fS, (hp.cS w3 (Below.refl _ _)).mono fun e w4 h => ⟨h.1, below_step hb h.2, fun hs => ?_⟩⟩
  exact lay_end (below_step hb h.2) (But.refl _ _) hge hnd (hA.below h.2) hs hk hz

set_option maxHeartbeats 4000000 in
theorem arrP_one (v : Value) (l : List CellV) (how sz : Int) (w : World) (h : CellsIn w v l) {t : Tree} (hF : readF l = some t) (hh : 1 ≤ how ∧ how ≤ 5) (h1 : (idsOf l).length = 1) : Calls Try.prog 14 #[v, .int .i64 how, .int .i64 sz] w (ArrAns t w) := by
  have hO := arr_of hF
  have HR : Hid (Calls Try.prog 16 #[v] w (ReadYes t w)) := read_yes v l w h hF
  have HI : Hid (∀ X, Below w.heap.size w X → Calls Try.prog 39 #[v] X fun e w' => ∃ u, e = .returned u ∧ IOwns w' X.heap.size u (idsOf l) ∧ Below X.heap.size X w') := fun X hX => paneIds_any v l X (h.below hX) (by have := hO.lay.size; omega)
  have HK : Hid (t.kinds ∧ t.size ≤ 200 ∧ t.sound = true) := ⟨hO.lay.kinds, by have := lay_size hO.lay; omega, hO.lay.sound⟩
  have H1 : Hid ((idsOf l).length = 1) := h1
  have d1 : decide (how < (1 : Int)) = false := decide_eq_false (by omega)
  have d2 : decide ((5 : Int) < how) = false := decide_eq_false (by omega)
  have hAns : ArrAns t w = Ans2 0 (laidL t) w := by funext e w'; unfold ArrAns; rw [if_pos HK.out.2.2]
  rw [hAns]
  clear hF h hO h1 hh hAns
  go_enter Try.func14, Try.ntmps14
  go_wp2_with fail
  refine HR.out.mono ?_
  rintro e w1 ⟨T, g, fp, rfl, hA, hnd, hge, hb⟩
  have HA : Hid (t.At w1 0 (.iface T (.pointer (some ⟨g, 0, none⟩))) fp ∧ fp.Nodup ∧ (∀ q ∈ fp, w.heap.size ≤ q) ∧ Below w.heap.size w w1) := ⟨hA, hnd, hge, hb⟩
  clear hA hnd hge hb
  go_wp2_with fail
  refine (HI.out _ HA.out.2.2.2).mono ?_
  rintro e w2 ⟨u, rfl, hu, hb2⟩
  obtain ⟨ua, uc, rfl⟩ : ∃ a c, u = .slice a 1 c := by
    have h2 : w2.ownsRow w1.heap.size 3 1 u (idsOf l).length ((idsOf l).map (Value.int .i64)) := hu
    rw [H1.out] at h2
    rcases h2.2 with ⟨_, h0⟩ | ⟨g', cap, cur, e, _⟩
    · cases h0
    · exact ⟨_, _, e⟩
  have HLe := left_of (HA.out.1.below hb2) HA.out.2.1 HA.out.2.2.1 (below_step HA.out.2.2.2 hb2) HK.out.1 HK.out.2.1
  obtain ⟨Fs, hle⟩ := HLe
  have HL : Hid (LeftOf t w w2 T g Fs) := hle
  have m1 := hle.mS
  have m2 := hle.fS
  clear hu hb2 hle
  go_wp2_with fail
  refine HL.out.cS.mono ?_
  rintro e w4 ⟨rfl, hb4, hc4⟩
  have HC4 : Hid (Calls Try.prog 23 #[.iface T (.pointer (some ⟨g, 0, none⟩))] w4 fun e w5 => ∃ u, e = .returned u ∧ CeOwns w5 w.heap.size u (laidL t) ∧ Below w.heap.size w w5) := hc4 HK.out.2.2
  rw [HK.out.2.2]
  clear hb4 hc4 m1 m2 HL
  go_wp2_with fail
  refine HC4.out.mono ?_
  rintro e w5 ⟨q, rfl, hq, hb5⟩
  have H5 : Hid (CeOwns w5 w.heap.size q (laidL t) ∧ Below w.heap.size w w5) := ⟨hq, hb5⟩
  clear hq hb5
  go_wp2
  refine bodyPost_ret (v := .tuple #[q, .int .i64 0]) (by simp [results, Try.results14, go_sem]) rfl ?_
  exact ⟨_, rfl, H5.out.1, H5.out.2⟩

set_option maxHeartbeats 4000000 in
theorem arrP_many (v : Value) (l : List CellV) (how sz : Int) (w : World) (h : CellsIn w v l) {t : Tree} (hF : readF l = some t) (hh : 1 ≤ how ∧ how ≤ 5) (hsz : -9223372036854775808 ≤ sz ∧ sz ≤ 9223372036854775807) (z0 : Int) (zs : List Int) (hids : idsOf l = z0 :: zs) (h1 : 1 ≤ zs.length) : Calls Try.prog 14 #[v, .int .i64 how, .int .i64 sz] w (ArrAns (arrT how z0 zs ⟨0, 0, t.box.w, t.box.h⟩ sz) w) := by
  have hO := arr_of hF
  have HR : Hid (Calls Try.prog 16 #[v] w (ReadYes t w)) := read_yes v l w h hF
  have HI : Hid (∀ X, Below w.heap.size w X → Calls Try.prog 39 #[v] X fun e w' => ∃ u, e = .returned u ∧ IOwns w' X.heap.size u (idsOf l) ∧ Below X.heap.size X w') := fun X hX => paneIds_any v l X (h.below hX) (by have := hO.lay.size; omega)
  have hfew := hO.few
  rw [hids, List.length_cons] at hfew
  obtain ⟨b, hb⟩ : ∃ b : Box, b = ⟨0, 0, t.box.w, t.box.h⟩ := ⟨_, rfl⟩
  rw [← hb] at hO ⊢
  have hx : b.x = 0 := by rw [hb]
  have hy : b.y = 0 := by rw [hb]
  obtain ⟨c, r, rfl, hcw, hch⟩ := hO.head
  obtain ⟨gb, off, cap, rfl, hcap, hseen⟩ := h.seen (by simp)
  have HSe : Hid (∀ X, Below w.heap.size w X → X.cell? ⟨gb, off + 4, none⟩ = some (.int .i64 b.w) ∧ X.cell? ⟨gb, off + 5, none⟩ = some (.int .i64 b.h)) := fun X hX => by
    have hd := (hseen.below hX).at0
    exact ⟨by rw [← hcw]; exact hd.q4, by rw [← hch]; exact hd.q5⟩
  obtain ⟨n, hn⟩ : ∃ n, (c :: r).length = n := ⟨_, rfl⟩
  rw [hn] at HR HI hcap ⊢
  have hn1 : 1 ≤ n := by rw [← hn]; simp
  have hn0 : 0 < n := by omega
  have HArr : Hid (∀ u X, IdsIn X u (z0 :: zs) → Calls Try.prog 40 #[.int .i64 how, u, .agg #[.int .i64 0, .int .i64 0, .int .i64 b.w, .int .i64 b.h], .int .i64 sz] X (ReadYes (arrT how z0 zs b sz) X)) := fun u X hX => by
    have := arranged_any how hh z0 zs b sz u X hX h1 (by omega) hO.sides.1 hO.sides.2 hsz
    unfold boxV at this
    rw [hx, hy] at this
    exact this
  have HK : Hid ((arrT how z0 zs b sz).kinds ∧ (arrT how z0 zs b sz).size ≤ 200) := ⟨arr_kinds _ _ _ _ _, by have := arr_size how z0 zs b sz h1 (by omega); omega⟩
  have HId : Hid (idsOf (c :: r) = z0 :: zs) := hids
  obtain ⟨m, hm⟩ : ∃ m, zs.length = m := ⟨_, rfl⟩
  have HM : Hid (zs.length = m) := hm
  rw [hm] at h1 hfew
  have d1 : decide (how < (1 : Int)) = false := decide_eq_false (by omega)
  have d2 : decide ((5 : Int) < how) = false := decide_eq_false (by omega)
  obtain ⟨AT, hAT⟩ : ∃ T, arrT how z0 zs b sz = T := ⟨_, rfl⟩
  rw [hAT] at HArr HK ⊢
  clear hF h hO hids hh hb hx hy hcw hch hseen hn hm hAT
  go_enter Try.func14, Try.ntmps14
  go_wp2_with fail
  refine HR.out.mono ?_
  rintro e w1 ⟨T, g, fp, rfl, hA, hnd, hge, hb⟩
  have HB1 : Hid (Below w.heap.size w w1) := hb
  clear hA hnd hge hb
  go_wp2_with fail
  refine (HI.out _ HB1.out).mono ?_
  rintro e w2 ⟨u, rfl, hu, hb2⟩
  rw [HId.out] at hu
  have HU : Hid (IdsIn w2 u (z0 :: zs)) := hu.ids (by simp)
  obtain ⟨gu, ou, cu, hue, _⟩ := HU.out
  rw [List.length_cons, HM.out] at hue
  subst hue
  have HB2 : Hid (Below w.heap.size w w2) := below_step HB1.out hb2
  obtain ⟨q4, q5⟩ := HSe.out w2 HB2.out
  have h2m : (1 : Int) < (m : Int) + 1 := by omega
  clear hu hb2
  go_wp2_with fail
  go_region_law (first
    | (go_simp; go_at_call 40; refine (HArr.out _ _ (by obtain ⟨a1, a2, a3, a4, a5, a6⟩ := HU.out; exact ⟨a1, a2, a3, a4, a5, a6⟩)).mono ?_; rintro e w3 ⟨T3, g3, f3, rfl, hA3, hnd3, hge3, hb3⟩; have hL3 := left_of (w := w) hA3 hnd3 (fun q hq => Nat.le_trans HB2.out.size (hge3 q hq)) (below_step HB2.out ⟨hb3.os, hb3.tape, hb3.output, hb3.size, hb3.block⟩) HK.out.1 HK.out.2; obtain ⟨Fs, hle⟩ := hL3; have HL : Hid (LeftOf AT w w3 T3 g3 Fs) := hle; have m1 := hle.mS; have m2 := hle.fS; clear hA3 hnd3 hge3 hb3 hle))
  all_goals (
    go_wp2_with fail
    refine HL.out.cS.mono ?_
    rintro e w4 ⟨rfl, hb4, hc4⟩
    have HB4 : Hid (Below w.heap.size w w4) := hb4
    have HC4 : Hid (AT.sound = true → Calls Try.prog 23 #[.iface T3 (.pointer (some ⟨g3, 0, none⟩))] w4 fun e w5 => ∃ u, e = .returned u ∧ CeOwns w5 w.heap.size u (laidL AT) ∧ Below w.heap.size w w5) := hc4
    obtain ⟨sd, hsd⟩ : ∃ s, AT.sound = s := ⟨_, rfl⟩
    have HSd : Hid (AT.sound = sd) := hsd
    rw [hsd] at HC4 ⊢
    clear hb4 hc4 m1 m2 HL hsd
    cases sd
    · go_wp2
      refine bodyPost_ret (v := .tuple #[.slice none 0 0, .int .i64 44]) (by simp [results, Try.results14, go_sem]) rfl ?_
      unfold ArrAns
      rw [if_neg (by rw [HSd.out]; decide)]
      exact ⟨_, rfl, World.ownsRow_nil _ _ _ _, HB4.out⟩
    · have HC5 : Hid (Calls Try.prog 23 #[.iface T3 (.pointer (some ⟨g3, 0, none⟩))] w4 fun e w5 => ∃ u, e = .returned u ∧ CeOwns w5 w.heap.size u (laidL AT) ∧ Below w.heap.size w w5) := HC4.out rfl
      clear HC4
      go_wp2_with fail
      refine HC5.out.mono ?_
      rintro e w5 ⟨q, rfl, hq, hb5⟩
      have H5 : Hid (CeOwns w5 w.heap.size q (laidL AT) ∧ Below w.heap.size w w5) := ⟨hq, hb5⟩
      clear hq hb5
      go_wp2
      refine bodyPost_ret (v := .tuple #[q, .int .i64 0]) (by simp [results, Try.results14, go_sem]) rfl ?_
      unfold ArrAns
      rw [if_pos HSd.out]
      exact ⟨_, rfl, H5.out.1, H5.out.2⟩)

end Go.Proofs.Ytjnmjoigmbpodaa
