/-
  The functions of an escaped text's field, of a body's, of a reason's.
-/
import Derived.Test.YtplolaondmeccaaGreatDoorWFldC
import Derived.WalkKit
import Derived.RegionTactic
namespace Go.Proofs.YtplolaondmeccaaGreatDoor
open Go.RowKit
set_option linter.unusedVariables false

theorem esc_lim {s : ByteArray} (h : s.size ≤ lim) : (esc s.data.toList).length ≤ 140737488355328 := by
  have := (esc_length s.data.toList).2
  rw [size_data] at this
  unfold lim at h
  omega
theorem escB_lim {s : ByteArray} (h : s.size ≤ lim) : (escB s.data.toList).length ≤ 140737488355328 := by
  have := escB_length s.data.toList
  rw [size_data] at this
  unfold lim at h
  omega
theorem lim_big {s : ByteArray} (h : s.size ≤ lim) : s.size ≤ 140737488355328 := by unfold lim at h; omega

theorem body_put (B : Nat) (w : World) : PutOk B w 80 #[] fBody.put := by
  intro W b ev hb hE hev hfit
  have c1 : W.cell? ⟨b, 10, none⟩ = some (.string ev.text) := by rw [hev.cell]; rfl
  have hD : Digs W := hE.digs
  have h1 := lim_big hfit.textL
  have h2 := escB_lim hfit.textL
  show Calls Tryz.prog 80 #[.pointer (some ⟨b, 0, none⟩)] W _
  show Calls _ _ _ _ fun e w' => e = .returned (.string (str (escB ev.text.data.toList))) ∧ Below W.heap.size W w'
  clear hev hb hE hfit
  go_enter Tryz.func80, Tryz.ntmps80
  go_wp2_with (go_at_call 81; refine (escapeBody_any _ _ hD h1 h2).mono ?_; rintro e w1 ⟨rfl, hb1⟩)
  go_ret
  exact ⟨rfl, by assumption⟩

theorem set_text {W : World} {b : Nat} {ev : Ev} (h : EvAt W b ev) (t : ByteArray) : EvAt (W.setCell ⟨b, 10, none⟩ (.string t)) b { ev with text := t } := h.set _ _ rfl

theorem body_read (B : Nat) (w : World) : ReadOk B w 82 #[] fBody.read := by
  intro W b ev t hb hE hB hev ht
  have hD : Digs W := hE.digs
  have hbl : b < W.heap.size := hev.lt
  have h1 := lim_big ht
  show Calls Tryz.prog 82 #[.pointer (some ⟨b, 0, none⟩), .string t] W _
  have HL : Hid (∀ u, escB u = t.data.toList → Left (fBody.read t.data.toList) ev { ev with text := str u } true) := fun u h => by
    refine .inl ⟨fun e => { e with text := str u }, ?_, rfl, rfl⟩
    show (unescB t.data.toList).map _ = _
    rw [unescB_some h]; rfl
  have HK : Hid (∀ ev', (∀ u, escB u ≠ t.data.toList) → Left (fBody.read t.data.toList) ev ev' false) := fun ev' h => by
    refine .inr ⟨?_, rfl⟩
    show (unescB t.data.toList).map _ = _
    rw [unescB_none h]; rfl
  obtain ⟨R, hR⟩ : ∃ R, fBody.read t.data.toList = R := ⟨_, rfl⟩
  rw [hR] at HL HK ⊢
  have HV : Hid (EvAt W b ev) := hev
  clear hE hb hR hev hB ht
  go_enter Tryz.func82, Tryz.ntmps82
  go_wp2_with fail
  refine (unescapeBody_any _ _ hD h1).mono ?_
  rintro e w1 ⟨hcase, hb1⟩
  have HV1 : Hid (EvAt w1 b ev) := HV.out.below hb1 hbl
  have d3 : w1.cell? ⟨b, 10, none⟩ = some (.string ev.text) := by rw [HV1.out.cell]; rfl
  have d4 : w1.frozen? ⟨b, 10, none⟩ = false := HV1.out.free _
  have HG : Hid (∀ v, W.grownBy (w1.setCell ⟨b, 10, none⟩ v) (some b)) := fun v => grownBy_trans (grownBy_of_below hb1 _) (grownBy_setCell _ _ _ _)
  clear hb1 hD
  obtain ⟨u, rfl, hn⟩ | ⟨rfl, hn⟩ := hcase
  · have HN : Hid (escB u = t.data.toList) := hn
    clear hn
    go_wp2
    go_ret
    first | exact ⟨_, _, rfl, set_text HV1.out _, HG.out _, HL.out u HN.out⟩ | exact ⟨_, .inr ⟨rfl, set_text HV1.out _, HG.out _, HL.out u HN.out⟩⟩
  · have HN : Hid (∀ u, escB u ≠ t.data.toList) := hn
    clear hn
    go_wp2
    go_ret
    first | exact ⟨_, _, rfl, set_text HV1.out _, HG.out _, HK.out _ HN.out⟩ | exact ⟨_, .inl ⟨rfl, set_text HV1.out _, HG.out _, HK.out _ HN.out⟩⟩

theorem esc_put (lo hi : Nat) (hhi : hi ≤ lim) (B : Nat) (w : World) (bh : Nat) (hbhB : B ≤ bh) (hbh : w.cell? ⟨bh, 0, none⟩ = some (.int .i64 hi)) : PutOk B w 86 #[.pointer (some ⟨bh, 0, none⟩)] (fEsc lo hi).put := by
  intro W b ev hb hE hev hfit
  have c1 : W.cell? ⟨b, 10, none⟩ = some (.string ev.text) := by rw [hev.cell]; rfl
  have c2 : W.cell? ⟨bh, 0, none⟩ = some (.int .i64 hi) := (hb.cell (p := ⟨bh, 0, none⟩) hbhB (World.block_lt_of_cell? w _ hbh)).trans hbh
  have hD : Digs W.drew := hE.digs.below (Below.refl _ _).drew hE.digs.pos
  have h1 := lim_big hfit.textL
  have h2 := esc_lim hfit.textL
  show Calls Tryz.prog 86 #[.pointer (some ⟨b, 0, none⟩), .pointer (some ⟨bh, 0, none⟩)] W _
  show Calls _ _ _ _ fun e w' => e = .returned (.string (str (if hi < ev.text.size then [] else esc ev.text.data.toList))) ∧ Below W.heap.size W w'
  clear hev hb hE hfit hbh
  unfold lim at hhi
  by_cases h : hi < ev.text.size
  · rw [if_pos h]
    go_enter Tryz.func86, Tryz.ntmps86
    go_wp2
    go_region
    all_goals go_wp2
    all_goals go_ret
    all_goals exact ⟨rfl, (Below.refl _ _).drew⟩
  · rw [if_neg h]
    go_enter Tryz.func86, Tryz.ntmps86
    go_wp2
    go_region
    all_goals go_wp2_with (go_at_call 87; refine (escape_any _ _ hD h1 h2).mono ?_; rintro e w1 ⟨rfl, hb1⟩)
    all_goals go_ret
    all_goals exact ⟨rfl, (Below.refl _ W).drew.trans ‹_›⟩

theorem esc_read (lo hi : Nat) (hhi : hi ≤ lim) (hlo : lo ≤ lim) (B : Nat) (w : World) (bl bh : Nat) (hblB : B ≤ bl) (hbl : w.cell? ⟨bl, 0, none⟩ = some (.int .i64 lo)) (hbhB : B ≤ bh) (hbh : w.cell? ⟨bh, 0, none⟩ = some (.int .i64 hi)) :
    ReadOk B w 88 #[.pointer (some ⟨bl, 0, none⟩), .pointer (some ⟨bh, 0, none⟩)] (fEsc lo hi).read := by
  intro W b ev t hb hE hB hev ht
  have hD : Digs W := hE.digs
  have hblt : b < W.heap.size := hev.lt
  have h1 := lim_big ht
  have l1 : bl < w.heap.size := World.block_lt_of_cell? w _ hbl
  have l2 : bh < w.heap.size := World.block_lt_of_cell? w _ hbh
  have n1 : bl ≠ b := by omega
  have n2 : bh ≠ b := by omega
  have l1' : bl < W.heap.size := Nat.lt_of_lt_of_le l1 hb.size
  have l2' : bh < W.heap.size := Nat.lt_of_lt_of_le l2 hb.size
  have c1 : W.cell? ⟨bl, 0, none⟩ = some (.int .i64 lo) := (hb.cell (p := ⟨bl, 0, none⟩) hblB l1).trans hbl
  have c2 : W.cell? ⟨bh, 0, none⟩ = some (.int .i64 hi) := (hb.cell (p := ⟨bh, 0, none⟩) hbhB l2).trans hbh
  show Calls Tryz.prog 88 #[.pointer (some ⟨b, 0, none⟩), .string t, .pointer (some ⟨bl, 0, none⟩), .pointer (some ⟨bh, 0, none⟩)] W _
  have HL : Hid (∀ u, esc u = t.data.toList → Left ((fEsc lo hi).read t.data.toList) ev { ev with text := str u } (decide (lo ≤ u.length) && decide (u.length ≤ hi))) := fun u h => by
    show Left ((unesc t.data.toList).bind _) _ _ _
    rw [unesc_some h]
    show Left (if _ then _ else none) _ _ _
    by_cases hx : lo ≤ u.length ∧ u.length ≤ hi
    · rw [if_pos hx]; exact .inl ⟨_, rfl, by simp [hx], rfl⟩
    · rw [if_neg hx]; exact .inr ⟨rfl, by rw [← Bool.decide_and]; exact decide_eq_false hx⟩
  have HK : Hid (∀ ev', (∀ u, esc u ≠ t.data.toList) → Left ((fEsc lo hi).read t.data.toList) ev ev' false) := fun ev' h => by
    refine .inr ⟨?_, rfl⟩
    show (unesc t.data.toList).bind _ = _
    rw [unesc_none h]; rfl
  have HZ : Hid (∀ u, esc u = t.data.toList → u.length ≤ lim) := fun u h => by
    have := (esc_length u).1
    rw [h, size_data] at this
    omega
  obtain ⟨R, hR⟩ : ∃ R, (fEsc lo hi).read t.data.toList = R := ⟨_, rfl⟩
  rw [hR] at HL HK ⊢
  have HV : Hid (EvAt W b ev) := hev
  clear hE hb hR hev hB hbl hbh l1 l2 ht
  unfold lim at hhi hlo
  go_enter Tryz.func88, Tryz.ntmps88
  go_wp2_with fail
  refine (unescape_any _ _ hD h1).mono ?_
  rintro e w1 ⟨hcase, hb1⟩
  have HV1 : Hid (EvAt w1 b ev) := HV.out.below hb1 hblt
  have d3 : w1.cell? ⟨b, 10, none⟩ = some (.string ev.text) := by rw [HV1.out.cell]; rfl
  have d4 : w1.frozen? ⟨b, 10, none⟩ = false := HV1.out.free _
  have d5 : ∀ v, (w1.setCell ⟨b, 10, none⟩ v).cell? ⟨bl, 0, none⟩ = some (.int .i64 lo) := fun v => (World.cell?_of_block (w := w1) (Below.heap_setCell _ _ _ _ n1)).trans ((hb1.cell (p := ⟨bl, 0, none⟩) l1').trans c1)
  have d6 : ∀ v, (w1.setCell ⟨b, 10, none⟩ v).cell? ⟨bh, 0, none⟩ = some (.int .i64 hi) := fun v => (World.cell?_of_block (w := w1) (Below.heap_setCell _ _ _ _ n2)).trans ((hb1.cell (p := ⟨bh, 0, none⟩) l2').trans c2)
  have HG : Hid (∀ v, W.grownBy (w1.setCell ⟨b, 10, none⟩ v) (some b)) := fun v => grownBy_trans (grownBy_of_below hb1 _) (grownBy_setCell _ _ _ _)
  clear hb1 hD c1 c2
  obtain ⟨u, rfl, hn⟩ | ⟨rfl, hn⟩ := hcase
  · have HN : Hid (esc u = t.data.toList) := hn
    have hz := str_size u
    obtain ⟨n, hun⟩ : ∃ n, (str u).size = n := ⟨_, rfl⟩
    have HU : Hid (u.length = n) := hz.symm.trans hun
    have hnl : n ≤ 67108864 := by have := HZ.out u hn; have := HU.out; unfold lim at *; omega
    clear hn hz
    by_cases x1 : lo ≤ n
    · go_wp2
      go_ret
      have hl := HL.out u HN.out
      rw [HU.out, decide_eq_true x1] at hl
      exact ⟨_, _, rfl, set_text HV1.out _, HG.out _, hl⟩
    · go_wp2
      go_ret
      have hl := HL.out u HN.out
      rw [HU.out, decide_eq_false x1] at hl
      first | exact ⟨_, _, rfl, set_text HV1.out _, HG.out _, hl⟩ | exact ⟨_, .inl ⟨rfl, set_text HV1.out _, HG.out _, hl⟩⟩
  · have HN : Hid (∀ u, esc u ≠ t.data.toList) := hn
    clear hn
    go_wp2
    go_ret
    first | exact ⟨_, _, rfl, set_text HV1.out _, HG.out _, HK.out _ HN.out⟩ | exact ⟨_, .inl ⟨rfl, set_text HV1.out _, HG.out _, HK.out _ HN.out⟩⟩

theorem str_app (a b : List UInt8) : str a ++ str b = str (a ++ b) := by
  apply ByteArray.ext
  rw [ByteArray.data_append]
  simp [str]

theorem fEsc_len (lo hi : Nat) (ev : Ev) (h : ev.Fits) : ((fEsc lo hi).put ev).length ≤ 4 * slim := by
  show (if hi < ev.text.size then [] else esc ev.text.data.toList).length ≤ _
  split
  · simp
  · have := (esc_length ev.text.data.toList).2
    have h2 := h.text
    rw [size_data] at this
    omega

theorem reason_put (B : Nat) (w : World) (bs g : Nat) (lb : Array Value) (hcB : B ≤ bs) (hc : w.cell? ⟨bs, 0, none⟩ = some (.func (.func g) #[] lb)) (eg : Enters g) (hput : PutOk B w g lb (fEsc 1 1024).put) :
    PutOk B w 104 #[.pointer (some ⟨bs, 0, none⟩)] fReason.put := by
  intro W b ev hb hE hev hfit
  unfold Enters at eg
  have c1 : W.cell? ⟨bs, 0, none⟩ = some (.func (.func g) #[] lb) := (hb.cell (p := ⟨bs, 0, none⟩) hcB (World.block_lt_of_cell? w _ hc)).trans hc
  have c2 : W.cell? ⟨b, 10, none⟩ = some (.string ev.text) := by rw [hev.cell]; rfl
  have hput' := hput W b ev hb hE hev hfit
  have hz := fEsc_len 1 1024 ev hfit
  have HZ : Hid (fReason.put ev = if ev.text.size = 0 then [] else 32 :: (fEsc 1 1024).put ev) := rfl
  obtain ⟨q, hq⟩ : ∃ q, (fEsc 1 1024).put ev = q := ⟨_, rfl⟩
  rw [hq] at hput' hz HZ
  have hz' : (str q).size ≤ 268435456 := by rw [str_size]; unfold slim at hz; omega
  rw [HZ.out]
  show Calls Tryz.prog 104 #[.pointer (some ⟨b, 0, none⟩), .pointer (some ⟨bs, 0, none⟩)] W _
  clear hb hev hc hput hq hz HZ hfit
  by_cases h0 : ev.text.size = 0
  · rw [if_pos h0]
    have he := empty_of0 _ h0
    clear hput'
    go_enter Tryz.func104, Tryz.ntmps104
    go_wp2
    go_ret
    exact ⟨rfl, Below.refl _ _⟩
  · rw [if_neg h0]
    obtain ⟨hne, hne'⟩ := toList_ne0 (s := ev.text) (by omega)
    go_enter Tryz.func104, Tryz.ntmps104
    go_wp2_with (go_at_fn g; refine hput'.mono ?_; rintro e w1 ⟨rfl, hb1⟩)
    go_ret
    exact ⟨ret_str (str_app [32] q), by assumption⟩

theorem reason_read (B : Nat) (w : World) (bs g : Nat) (lb : Array Value) (hcB : B ≤ bs) (hc : w.cell? ⟨bs, 1, none⟩ = some (.func (.func g) #[] lb)) (eg : Enters g) (hread : ReadOk B w g lb (fEsc 1 1024).read) :
    ReadOk B w 105 #[.pointer (some ⟨bs, 0, none⟩)] fReason.read := by
  intro W b ev t hb hE hB hev ht
  unfold Enters at eg
  have c1 : W.cell? ⟨bs, 1, none⟩ = some (.func (.func g) #[] lb) := (hb.cell (p := ⟨bs, 1, none⟩) hcB (World.block_lt_of_cell? w _ hc)).trans hc
  show Calls Tryz.prog 105 #[.pointer (some ⟨b, 0, none⟩), .string t, .pointer (some ⟨bs, 0, none⟩)] W _
  by_cases h0 : t.size = 0
  · have he := empty_of0 _ h0
    have HL : Hid (fReason.read t.data.toList = some id) := by show _ = _; rw [← Lib.toList_data, he]; rfl
    have HV : Hid (EvAt W b ev) := hev
    clear hb hev hc hread
    go_enter Tryz.func105, Tryz.ntmps105
    go_wp2
    go_ret
    first | exact ⟨_, _, rfl, HV.out, grownBy_refl _ _, .inl ⟨_, HL.out, rfl, rfl⟩⟩ | exact ⟨_, .inr ⟨rfl, HV.out, grownBy_refl _ _, .inl ⟨_, HL.out, rfl, rfl⟩⟩⟩
  · obtain ⟨hne, hne'⟩ := toList_ne0 (s := t) (by omega)
    obtain ⟨c, r, hcr⟩ : ∃ c r, t.data.toList = c :: r := by
      cases h : t.data.toList with
      | nil => rw [Lib.toList_data] at hne; exact absurd h hne
      | cons c r => exact ⟨c, r, rfl⟩
    have HP := Tryz.strings_CutPrefix t ⟨#[32]⟩ W
    by_cases h32 : c = 32
    · subst h32
      have e1 : Lib.trimPrefix t.data.toList [32] = r := by rw [hcr]; rfl
      have e2 : Lib.hasPrefix t.data.toList [32] = true := by rw [hcr]; rfl
      have HP' : Calls Tryz.prog 28 #[.string t, .string ⟨#[32]⟩] W fun e w' => e = .returned (.tuple #[.string (str r), .bool true]) ∧ W = w' := HP.mono fun e w' ⟨h1, h2⟩ => ⟨by rw [h1, e1, e2]; rfl, h2.symm⟩
      have HL : Hid (fReason.read t.data.toList = (fEsc 1 1024).read r) := by show _ = _; rw [hcr]; rfl
      have hr : (str r).size ≤ lim := by
        have h1 := size_data t
        rw [hcr] at h1
        have h2 := str_size r
        simp at h1
        omega
      have hread' := hread W b ev (str r) hb hE hB hev hr
      rw [str_data, ← HL.out] at hread'
      clear HL hb hev hc hread HP e1 e2 hcr
      go_enter Tryz.func105, Tryz.ntmps105
      go_wp2_with (first
        | (go_at_call 28; refine HP'.mono ?_; rintro e w1 ⟨rfl, rfl⟩)
        | (go_at_fn g; refine hread'.mono ?_; rintro e w1 ⟨ev', ok, rfl, hv, hg, hl⟩))
      go_ret
      exact ⟨_, _, rfl, ‹_›, ‹_›, ‹_›⟩
    · have e2 : Lib.hasPrefix t.data.toList [32] = false := by
        rw [hcr]
        show ([32] : List UInt8).isPrefixOf (c :: r) = false
        simp [List.isPrefixOf]
        exact fun h => h32 h.symm
      have HL : Hid (fReason.read t.data.toList = none) := by show _ = _; rw [hcr]; exact if_neg h32
      obtain ⟨q, hq⟩ : ∃ q : List UInt8, Lib.trimPrefix t.data.toList [32] = q := ⟨_, rfl⟩
      have HP' : Calls Tryz.prog 28 #[.string t, .string ⟨#[32]⟩] W fun e w' => e = .returned (.tuple #[.string (str q), .bool false]) ∧ W = w' := HP.mono fun e w' ⟨h1, h2⟩ => ⟨by rw [h1, hq, e2]; rfl, h2.symm⟩
      have HV : Hid (EvAt W b ev) := hev
      clear hb hev hc hread HP e2 hq hcr
      go_enter Tryz.func105, Tryz.ntmps105
      go_wp2_with (go_at_call 28; refine HP'.mono ?_; rintro e w1 ⟨rfl, rfl⟩)
      go_ret
      first | exact ⟨_, _, rfl, HV.out, grownBy_refl _ _, .inr ⟨HL.out, rfl⟩⟩ | exact ⟨_, .inl ⟨rfl, HV.out, grownBy_refl _ _, .inr ⟨HL.out, rfl⟩⟩⟩

end Go.Proofs.YtplolaondmeccaaGreatDoor
