/-
  Formats: an expander is made.
  Formats: the turns that a head names; a text turned by them.
-/
import Derived.Test.YtlfcjcaofhcfnaaGreatDoorGG
import Derived.Test.YtlfcjcaofhcfnaaGreatDoorGD
import Derived.Test.YtlfcjcaofhcfnaaGreatDoorGF
import Derived.Deep.RegionHeld3
namespace Go.Proofs.YtlfcjcaofhcfnaaGreatDoor
open Go.RowKit
set_option linter.unusedVariables false
set_option maxRecDepth 100000

/-- The expander, whole. -/
structure XAll (w : World) (xb : Nat) (vs : Vars) : Prop where
  at_ : ∃ mh mt w0, XAt w xb vs mh mt ∧ HeadsAt w xb mh ∧ TurnsAt w0 w mt
theorem XAll.below {w w' : World} {xb : Nat} {vs : Vars} (h : XAll w xb vs) (hb : Below w.heap.size w w') : XAll w' xb vs := by
  obtain ⟨mh, mt, w0, h1, h2, h3⟩ := h.at_
  exact ⟨mh, mt, w0, h1.below hb, h2.below hb, h3.below hb⟩
/-- The names so far. -/
def FirstTo (m : Ents) (vs : Vars) (k : Nat) : Prop := FirstOk m (vs.take k)
theorem FirstTo.zero (vs : Vars) : FirstTo [] vs 0 := fun name => rfl
theorem idx_take {vs : Vars} {k : Nat} {p : List UInt8 × List UInt8} (hp : vs[k]? = some p) (name : List UInt8) : (vs.take (k + 1)).findIdx? (fun v => decide (v.1 = name)) = ((vs.take k).findIdx? (fun v => decide (v.1 = name))).or (if p.1 = name then some k else none) := by
  have hk := (List.getElem?_eq_some_iff.1 hp).1
  rw [List.take_add_one, hp]
  simp only [Option.toList_some]
  rw [List.findIdx?_append]
  cases h : (vs.take k).findIdx? (fun v => decide (v.1 = name)) with
  | some i => rfl
  | none =>
    simp only [Option.none_or]
    by_cases hn : p.1 = name
    · simp [hn]; omega
    · simp [hn]
theorem FirstTo.known {m : Ents} {vs : Vars} {k : Nat} (h : FirstTo m vs k) {p : List UInt8 × List UInt8} (hp : vs[k]? = some p) {v : Value} (hv : lookT m p.1 = some v) : FirstTo m vs (k + 1) := fun name => by
  have h1 := h name
  rw [idx_take hp]
  by_cases hn : p.1 = name
  · subst hn
    rw [h1] at hv ⊢
    cases hf : (vs.take k).findIdx? (fun v => decide (v.1 = p.1)) with
    | none => rw [hf] at hv; cases hv
    | some i => rfl
  · rw [if_neg hn, Option.or_none]
    exact h1
theorem look_snoc (m : Ents) (k : List UInt8) (v : Value) (name : List UInt8) : lookT (m ++ [(k, v)]) name = (lookT m name).or (if k = name then some v else none) := by
  unfold lookT
  rw [List.find?_append]
  cases h : m.find? (fun p => decide (p.1 = name)) with
  | some q => rfl
  | none =>
    by_cases hk : k = name
    · simp [hk]
    · simp [hk]
theorem FirstTo.fresh {m : Ents} {vs : Vars} {k : Nat} (h : FirstTo m vs k) {p : List UInt8 × List UInt8} (hp : vs[k]? = some p) (hv : lookT m p.1 = none) : FirstTo (m ++ [(p.1, .int .i64 (k : Int))]) vs (k + 1) := fun name => by
  have h1 := h name
  rw [idx_take hp, look_snoc, h1]
  by_cases hn : p.1 = name
  · subst hn
    rw [h1] at hv
    cases hf : (vs.take k).findIdx? (fun v => decide (v.1 = p.1)) with
    | some i => rw [hf] at hv; cases hv
    | none => simp
  · rw [if_neg hn, if_neg hn, Option.or_none, Option.or_none]
theorem FirstTo.all {m : Ents} {vs : Vars} {k : Nat} (h : FirstTo m vs k) (hk : vs.length ≤ k) : FirstOk m vs := by
  have := h
  unfold FirstTo at this
  rwa [List.take_of_length_le hk] at this

theorem TurnsAt.but {w0 w w' : World} {b f : Nat} (h : TurnsAt w0 w b) (hb : But [f] w w') (hf : f < b ∨ w0.heap.size ≤ f ∧ f ≠ b) : TurnsAt w0 w' b := by
  obtain ⟨hs, hz, m, h1, h2⟩ := h
  exact ⟨⟨Nat.le_trans hs.size hb.size, fun k hk hl => (hb.block k (Nat.lt_of_lt_of_le hl hs.size) (by simp; omega)).trans (hs.block k hk hl)⟩, Nat.le_trans hz hb.size, m, h1.keep (hb.block b h1.lt (by simp; omega)), h2⟩
/-- While the names are laid in. -/
structure NI (w w1 W : World) (xb mf mt : Nat) (sv : Value) (vs : Vars) (m : Ents) (k : Nat) : Prop where
  blk : W.heap[xb]? = some (.cells #[sv, .map (some mf), .map none, .map (some mt)] 51 (0, 0))
  map : MapAt W mf m
  first : FirstTo m vs k
  below : Below w.heap.size w W
  turns : TurnsAt w1 W mt
  old : w.heap.size ≤ mf ∧ mf < mt ∧ mt < xb
  late : w1.heap.size ≤ xb
theorem NI.more {w w1 W W' : World} {xb mf mt : Nat} {sv : Value} {vs : Vars} {m : Ents} {k : Nat} (h : NI w w1 W xb mf mt sv vs m k) (hb : Below W.heap.size W W') : NI w w1 W' xb mf mt sv vs m k :=
  ⟨(hb.block xb (lt_of_block h.blk)).trans h.blk, h.map.below hb, h.first, h.below.trans (hb.mono h.below.size), h.turns.below hb, h.old, h.late⟩
theorem NI.laid {w w1 W W' : World} {xb mf mt : Nat} {sv : Value} {vs : Vars} {m m' : Ents} {k k' : Nat} (h : NI w w1 W xb mf mt sv vs m k) (hm : MapAt W' mf m') (hb : But [mf] W W') (hf : FirstTo m' vs k') : NI w w1 W' xb mf mt sv vs m' k' := by
  obtain ⟨o1, o2, o3⟩ := h.old
  exact ⟨(hb.block xb (lt_of_block h.blk) (by simp; omega)).trans h.blk, hm, hf, hb.under h.below h.below.size (fun k hk => by rw [List.mem_singleton.1 hk]; exact o1), h.turns.but hb (.inl o2), h.old, h.late⟩

theorem set_third {w : World} {R : Nat} {a b c d : Value} {t : TypeId} (h : w.heap[R]? = some (.cells #[a, b, c, d] t (0, 0))) (u : Value) : (w.setCell ⟨R, 2, none⟩ u).heap[R]? = some (.cells #[a, b, u, d] t (0, 0)) := heap_setCell_same w R 2 _ _ _ h
theorem new_end {w w1 wr w3 : World} {xb mf mt mh n : Nat} {sv : Value} {vs : Vars} {m : Ents} (hn : vs.length = n) (hv : VarsIn w sv vs) (hb : Below wr.heap.size wr w3) (hmh : wr.heap.size ≤ mh) (h0 : NI w w1 wr xb mf mt sv vs m n) (h : NI w w1 w3 xb mf mt sv vs m n) (hh : HeadsAt w3 xb mh) :
    Below w.heap.size w (w3.setCell ⟨xb, 2, none⟩ (.map (some mh))) ∧ XAll (w3.setCell ⟨xb, 2, none⟩ (.map (some mh))) xb vs := by
  obtain ⟨o1, o2, o3⟩ := h.old
  have hxl := lt_of_block h0.blk
  have hB : Below w.heap.size w (w3.setCell ⟨xb, 2, none⟩ (.map (some mh))) := Below.setCell h.below (by show w.heap.size ≤ xb; omega) _
  have hk : ∀ k, k ≠ xb → (w3.setCell ⟨xb, 2, none⟩ (.map (some mh))).heap[k]? = w3.heap[k]? := fun k hk => Below.heap_setCell _ _ _ _ hk
  have hbut : But [xb] w3 (w3.setCell ⟨xb, 2, none⟩ (.map (some mh))) := But.setCell (But.refl _ _) (.inl (by simp)) _
  refine ⟨hB, mh, mt, w1, ⟨sv, mf, m, set_third h.blk _, hv.below hB, h.map.keep (hk mf (by omega)), h.first.all (by omega)⟩, ?_, ?_⟩
  · obtain ⟨mm, hm1, hm2, hm3⟩ := hh
    exact ⟨mm, hm1.keep (hk mh (by omega)), hm2, hm3.since (.of_but hbut fun k hk => by rw [List.mem_singleton.1 hk]; omega)⟩
  · exact h.turns.but hbut (.inr ⟨h.late, by omega⟩)

set_option maxHeartbeats 4000000 in
theorem new_any {w : World} {sv : Value} {vs : Vars} (hv : VarsIn w sv vs) : Calls Tryz.prog 9 #[sv] w fun e w' => ∃ xb, e = .returned (.pointer (some ⟨xb, 0, none⟩)) ∧ Below w.heap.size w w' ∧ XAll w' xb vs := by
  have hmk := run_makeMap (P := Tryz.prog) 46 w
  have HV := hidK hv
  obtain ⟨ad, cap, rfl, hn, hc⟩ := hv
  obtain ⟨n, hnn⟩ : ∃ n, vs.length = n := ⟨_, rfl⟩
  rw [hnn] at hn HV ⊢
  have HN := hidK hnn
  have HC := hidK hc
  clear hc hnn
  go_enter Tryz.func9, Tryz.ntmps9
  go_wp2_with fail
  refine (turners_any _).mono ?_
  rintro x w1 ⟨mt, rfl, hb1, hmt, hT⟩
  have HB1 := hidK hb1
  have HT := hidK hT
  have H0 : Hid (NI w w1 (w1.alloc (.cells #[.slice ad n cap, .map (some w.heap.size), .map none, .map (some mt)] 51)) w1.heap.size w.heap.size mt (.slice ad n cap) vs [] 0) := by
    have hA : Below w1.heap.size w1 (w1.alloc (.cells #[.slice ad n cap, .map (some w.heap.size), .map none, .map (some mt)] 51)) := (Below.refl _ _).alloc (Nat.le_refl _) _
    have hm0 : MapAt (w.alloc (.map #[] 0)) w.heap.size [] := ⟨#[], 0, heap_alloc_new w _, rfl⟩
    have hw0 : Below w.heap.size w (w.alloc (.map #[] 0)) := (Below.refl _ _).alloc (Nat.le_refl _) _
    have hmt' : w.heap.size + 1 ≤ mt := by simpa using hmt
    obtain ⟨_, _, mm, hmm, _⟩ := hT
    have hlt := hmm.lt
    exact ⟨heap_alloc_new w1 _, (hm0.below hb1).below hA, FirstTo.zero vs, (hw0.trans (hb1.mono hw0.size)).trans (hA.mono (hw0.trans (hb1.mono hw0.size)).size), HT.out.below hA, ⟨Nat.le_refl _, by omega, hlt⟩, Nat.le_refl _⟩
  obtain ⟨mf, hmf⟩ : ∃ mf, w.heap.size = mf := ⟨_, rfl⟩
  obtain ⟨xb, hxb⟩ : ∃ xb, w1.heap.size = xb := ⟨_, rfl⟩
  clear hb1 hmk hT
  go_wp2_with fail
  rw [hmf] at H0
  try simp only [hmf, hxb]
  rw [hxb] at H0
  go_loopw [15] (fun s15 wx => ∃ (k : Nat) (m : Ents), k ≤ n ∧ s15 = .int .i64 (k : Int) ∧ Hid (NI w w1 wx xb mf mt (.slice ad n cap) vs m k)) (fun v _ => n - (intOf v).toNat)
  case atStart => exact ⟨0, [], Nat.zero_le _, rfl, H0.out⟩
  case round =>
    obtain ⟨k, m, hk, rfl, HI⟩ := hrel
    by_cases hkn : k < n
    · obtain ⟨p, hp⟩ : ∃ p, vs[k]? = some p := ⟨_, List.getElem?_eq_getElem (by rw [HN.out]; exact hkn)⟩
      obtain ⟨g, o, rfl, hg, q0, q1⟩ := HC.out k p hp
      have q0' := (HI.out.below.cell (p := ⟨g, o + k * 2, none⟩) hg).trans q0
      have q1' := (HI.out.below.cell (p := ⟨g, o + k * 2 + 1, none⟩) hg).trans q1
      obtain ⟨z, hz⟩ : ∃ z, str p.1 = z := ⟨_, rfl⟩
      obtain ⟨y, hy⟩ : ∃ y, str p.2 = y := ⟨_, rfl⟩
      rw [hz] at q0'
      rw [hy] at q1'
      have HIX := hidK (HI.out.more ((Below.refl _ _).alloc (Nat.le_refl _) (.cells #[.string z, .string y] 44)))
      have n0 : (wr.alloc (.cells #[.string z, .string y] 44)).cell? ⟨wr.heap.size, 0, none⟩ = some (.string z) := cell_atT (heap_alloc_new wr (.cells #[.string z, .string y] 44)) 0
      obtain ⟨X, hX⟩ : ∃ X, wr.alloc (.cells #[.string z, .string y] 44) = X := ⟨_, rfl⟩
      rw [hX] at HIX n0
      have HX := hidK hX
      have b1 : X.cell? ⟨xb, 1, none⟩ = some (.map (some mf)) := cell_atT HIX.out.blk 1
      have HP := hidK hp
      have HZ := hidK hz
      clear q0 q1 hX hp hz hy
      cases hlk : lookT m p.1 with
      | some v =>
        have HF := hidK (HIX.out.first.known HP.out hlk)
        have l0 := look_some HIX.out.map under56 Tryz.underlying9 hlk
        have l1 := look_some (w := X.drew) HIX.out.map under56 Tryz.underlying9 hlk
        rw [HZ.out] at l0 l1
        have HN2 : Hid (∀ Y, Below X.heap.size X Y → NI w w1 Y xb mf mt (.slice (some ⟨g, o, none⟩) n cap) vs m (k + 1)) := fun Y hY => by
          have h := HIX.out.more hY
          exact ⟨h.blk, h.map, HF.out, h.below, h.turns, h.old, h.late⟩
        clear hlk
        go_wp2_with fail
        rw [HX.out]
        go_region
        all_goals go_wp2_with fail
        all_goals (
          go_roundw
          case rel => exact ⟨k + 1, m, by omega, by go_num, HN2.out _ (by repeat (first | exact Below.refl _ _ | apply Below.drew))⟩
          case measure => simp [intOf]; omega)
      | none =>
        have HF := hidK (HIX.out.first.fresh HP.out hlk)
        have l0 := look_none HIX.out.map under56 Tryz.underlying9 (zeroInt X) hlk
        have l1 := look_none (w := X.drew) HIX.out.map under56 Tryz.underlying9 (zeroInt X.drew) hlk
        rw [HZ.out] at l0 l1
        obtain ⟨Y1, r1, y1, u1⟩ := lay_new (w := X.drew) (v := .int .i64 (k : Int)) HIX.out.map under56 Tryz.underlying9 hlk
        obtain ⟨Y2, r2, y2, u2⟩ := lay_new (w := X.drew.drew) (v := .int .i64 (k : Int)) HIX.out.map under56 Tryz.underlying9 hlk
        rw [HZ.out] at r1 r2
        have hd1 : Below X.heap.size X X.drew := (Below.refl _ _).drew
        have hd2 : Below X.heap.size X X.drew.drew := hd1.drew
        have HN1 : Hid (∀ Z, Below Y1.heap.size Y1 Z → NI w w1 Z xb mf mt (.slice (some ⟨g, o, none⟩) n cap) vs (m ++ [(p.1, .int .i64 (k : Int))]) (k + 1)) := fun Z hZ => ((HIX.out.more hd1).laid y1 u1 HF.out).more hZ
        have HN2 : Hid (∀ Z, Below Y2.heap.size Y2 Z → NI w w1 Z xb mf mt (.slice (some ⟨g, o, none⟩) n cap) vs (m ++ [(p.1, .int .i64 (k : Int))]) (k + 1)) := fun Z hZ => ((HIX.out.more hd2).laid y2 u2 HF.out).more hZ
        clear hlk y1 u1 y2 u2 hd1 hd2
        go_wp2_with fail
        rw [HX.out]
        go_region
        all_goals go_wp2_with fail
        all_goals go_region
        all_goals go_wp2_with fail
        all_goals (
          go_roundw
          case rel => first
            | exact ⟨k + 1, _, by omega, by go_num, HN2.out _ (by repeat (first | exact Below.refl _ _ | apply Below.drew))⟩
            | exact ⟨k + 1, _, by omega, by go_num, HN1.out _ (by repeat (first | exact Below.refl _ _ | apply Below.drew))⟩
          case measure => simp [intOf]; omega)
    · obtain rfl : k = n := by omega
      have HHd := hidK (fun Y => heads_any xb Y)
      have b2 : ∀ Y, Below wr.heap.size wr Y → ∃ u, Y.cell? ⟨xb, 2, none⟩ = some u ∧ ∀ j, Y.frozen? ⟨xb, j, none⟩ = false := fun Y hY => ⟨_, cell_atT (HI.out.more hY).blk 2, fun j => free_atT (HI.out.more hY).blk j⟩
      have HB2 := hidK b2
      clear b2
      go_wp2_with fail
      refine (HHd.out wr).mono ?_
      rintro x w3 ⟨mh, rfl, hb3, hmh, hh3⟩
      obtain ⟨u, c2, f2⟩ := HB2.out w3 hb3
      have HI3 := hidK (HI.out.more hb3)
      have HH3 := hidK hh3
      have HB3 := hidK hb3
      have HMh := hidK hmh
      clear hb3 hh3 hmh
      go_wp2_with fail
      all_goals go_ret
      all_goals exact ⟨xb, rfl, new_end HN.out HV.out HB3.out HMh.out HI.out HI3.out HH3.out⟩

end Go.Proofs.YtlfcjcaofhcfnaaGreatDoor

namespace Go.Proofs.YtlfcjcaofhcfnaaGreatDoor
open Go.RowKit
set_option linter.unusedVariables false
set_option maxRecDepth 100000

/-- A turn that still does what it did, whatever is laid into block g. -/
def TurnOff (W : World) (v : Value) (t : Turn) (g : Option Nat) : Prop := ∃ B w0, TurnOk B w0 v t ∧ Since B w0 W ∧ ∀ k, g = some k → ¬ (B ≤ k ∧ k < w0.heap.size)
theorem TurnOff.below {W W' : World} {v : Value} {t : Turn} {g : Option Nat} (h : TurnOff W v t g) (hb : Below W.heap.size W W') : TurnOff W' v t g := by
  obtain ⟨B, w0, h1, h2, h3⟩ := h
  exact ⟨B, w0, h1, h2.trans (.of_below hb), h3⟩
theorem TurnOff.grown {X W' : World} {sv sv' v : Value} {t : Turn} (h : TurnOff X v t sv.ownBlock) (hg : Grown X W' sv sv' sv.ownBlock.toList) : TurnOff W' v t sv'.ownBlock := by
  obtain ⟨B, w0, h1, h2, h3⟩ := h
  refine ⟨B, w0, h1, ⟨Nat.le_trans h2.size hg.but.size, fun k hk hl => (hg.but.block k (Nat.lt_of_lt_of_le hl h2.size) fun hm => h3 k (by simpa using hm) ⟨hk, hl⟩).trans (h2.block k hk hl)⟩, fun k hk hh => ?_⟩
  rcases hg.own with e | e
  · exact h3 k (e ▸ hk) hh
  · rw [e] at hk
    cases hk
    have := h2.size
    omega
/-- A list of turns of one's own. -/
def Tl (w W : World) (sv : Value) (ts : List Turn) : Prop := ∃ vals, Mine w W 89 1 sv ts.length vals ∧ ∀ (i : Nat) t v, ts[i]? = some t → vals[i]? = some v → TurnOff W v t sv.ownBlock
theorem Tl.nil {w W : World} (h : Below w.heap.size w W) : Tl w W (.slice none 0 0) [] := ⟨[], Mine.nil h, fun i t v h => by simp at h⟩
theorem Tl.below {w W W' : World} {sv : Value} {ts : List Turn} (h : Tl w W sv ts) (hb : Below W.heap.size W W') : Tl w W' sv ts := by
  obtain ⟨vals, h1, h2⟩ := h
  exact ⟨vals, h1.more hb, fun i t v ht hv => (h2 i t v ht hv).below hb⟩
theorem Tl.world {w W : World} {sv : Value} {ts : List Turn} (h : Tl w W sv ts) : Below w.heap.size w W := by
  obtain ⟨vals, h1, h2⟩ := h
  exact h1.below
theorem Tl.grow {w Wc W1 X W' : World} {sv sv' tv : Value} {ts : List Turn} {t : Turn} {vals : List Value} (hm : Mine w Wc 89 1 sv ts.length vals) (hv : ∀ (i : Nat) t v, ts[i]? = some t → vals[i]? = some v → TurnOff Wc v t sv.ownBlock)
    (hb : Below Wc.heap.size Wc W1) (ht : TurnOk Wc.heap.size W1 tv t ∨ ∃ B w0, TurnOk B w0 tv t ∧ Since B w0 Wc ∧ w0.heap.size ≤ w.heap.size) (hX : Below W1.heap.size W1 X) (hr : Row W' 89 1 sv' (ts.length + 1) (vals ++ [tv])) (hg : Grown X W' sv sv' sv.ownBlock.toList) : Tl w W' sv' (ts ++ [t]) := by
  have hbX : Below Wc.heap.size Wc X := hb.trans (hX.mono hb.size)
  refine ⟨vals ++ [tv], (hm.grown hbX hr hg).cast (by simp) rfl, fun i t' v' h1 h2 => ?_⟩
  have hl : vals.length = ts.length := by have := hm.row.1; omega
  by_cases hi : i < ts.length
  · rw [List.getElem?_append_left hi] at h1
    rw [List.getElem?_append_left (by omega)] at h2
    exact ((hv i t' v' h1 h2).below hbX).grown hg
  · rw [List.getElem?_append_right (by omega)] at h1
    rw [List.getElem?_append_right (by omega)] at h2
    have hi0 : i - ts.length = 0 := by
      have := (List.getElem?_eq_some_iff.1 h1).1
      simp at this
      omega
    rw [hi0] at h1
    rw [hl, hi0] at h2
    simp at h1 h2
    subst h1 h2
    rcases ht with ht | ⟨B, w0, ht, hs0, hz0⟩
    · refine TurnOff.grown (X := X) ⟨Wc.heap.size, W1, ht, .of_below hX, fun k hk hh => ?_⟩ hg
      have := hm.row.lt k hk
      omega
    · refine TurnOff.grown (X := X) ⟨B, w0, ht, hs0.trans (.of_below hbX), fun k hk hh => ?_⟩ hg
      have := hm.young k hk
      omega
/-- How far the turns are read. -/
def joinT (ts : List Turn) : Option (Option (List Turn)) → Option (Option (List Turn))
  | none => none
  | some none => some none
  | some (some us) => some (some (ts ++ us))
theorem join_nil (r : Option (Option (List Turn))) : joinT [] r = r := by
  cases r with
  | none => rfl
  | some r => cases r <;> rfl
theorem join_cons (ts : List Turn) (p : List UInt8) (ps : List (List UInt8)) : joinT ts (turnsG (p :: ps)) = match turnF p with | none => none | some none => some none | some (some t) => joinT (ts ++ [t]) (turnsG ps) := by
  simp only [turnsG]
  cases turnF p with
  | none => rfl
  | some r =>
    cases r with
    | none => rfl
    | some t =>
      simp only []
      cases turnsG ps with
      | none => rfl
      | some r => cases r with
        | none => rfl
        | some us => simp [joinT]
theorem infoTurn : (Tryz.prog.info? 89).map (fun i => (i.zero, i.size, i.bytes)) = some (some .nilFunc, 1, 8) := by kernel_rfl
theorem underTurnL : Tryz.prog.underlying 180 = some (.slice 89) := by kernel_rfl

/-- What is read of Split's list. -/
theorem split_cells {w W : World} {ps : List (List UInt8)} (h : Below (w.alloc (.cells ((ps.map str).map Value.string).toArray 9)).heap.size (w.alloc (.cells ((ps.map str).map Value.string).toArray 9)) W) {i : Nat} {p : List UInt8} (hp : ps[i]? = some p) : W.cell? ⟨w.heap.size, i, none⟩ = some (.string (str p)) := by
  rw [cell_atT ((h.block w.heap.size (by simp)).trans (heap_alloc_new w _)) i]
  simp [hp]
/-- What the expander shows of its turners. -/
structure TurnX (W : World) (xb mt : Nat) (w0 : World) : Prop where
  cell : W.cell? ⟨xb, 3, none⟩ = some (.map (some mt))
  turns : TurnsAt w0 W mt
  env : NEnv W
theorem TurnX.below {W W' : World} {xb mt : Nat} {w0 : World} (h : TurnX W xb mt w0) (hb : Below W.heap.size W W') : TurnX W' xb mt w0 :=
  ⟨(hb.cell (p := ⟨xb, 3, none⟩) (World.block_lt_of_cell? W _ h.cell)).trans h.cell, h.turns.below hb, h.env.below hb⟩
theorem zeroTurner (w : World) : (zeroValue 83).run Tryz.prog w = .ok .nilFunc w := by kernel_rfl

theorem tl_older {w w1 W : World} {sv : Value} {ts : List Turn} (hb : Below w.heap.size w w1) (h : Tl w1 W sv ts) : Tl w W sv ts := by
  obtain ⟨vals, h1, h2⟩ := h
  exact ⟨vals, ⟨h1.row, hb.trans (h1.below.mono hb.size), fun g hg => Nat.le_trans hb.size (h1.young g hg)⟩, h2⟩
theorem turn_known {w0 W : World} {mt : Nat} (h : TurnsAt w0 W mt) {c : UInt8} {f : List UInt8 → Option Turn} (hf : trOf c = some f) : ∃ m v, MapB W mt m ∧ lookB m c = some v ∧ TurnerOk (mt + 1) w0 v f ∧ Since (mt + 1) w0 W := by
  obtain ⟨hs, _, m, h1, h2, h3⟩ := h
  obtain ⟨v, hv, hm⟩ := mem_lookB (m := m) (c := c) (by rw [h2]; exact tr_some hf)
  obtain ⟨f', k1, k2⟩ := h3 _ hm
  have e : some f = some f' := hf.symm.trans k1
  cases e
  exact ⟨m, v, h1, hv, k2, hs⟩
theorem turn_unknown {w0 W : World} {mt : Nat} (h : TurnsAt w0 W mt) {c : UInt8} (hf : trOf c = none) : ∃ m, MapB W mt m ∧ lookB m c = none := by
  obtain ⟨hs, _, m, h1, h2, h3⟩ := h
  exact ⟨m, h1, not_lookB (by rw [h2]; exact tr_none hf)⟩

set_option maxHeartbeats 4000000 in
theorem turnsOf_any {w : World} {xb mt : Nat} {w0 : World} (h : TurnX w xb mt w0) (name : List UInt8) (hl : name.length ≤ 2147483647) (R : Option (List Turn)) (hR : turnsF name = some R) :
    Calls Tryz.prog 161 #[.pointer (some ⟨xb, 0, none⟩), .string (str name)] w fun e w' => Below w.heap.size w w' ∧ ∃ sv ok, e = .returned (.tuple #[sv, .bool ok]) ∧ ((∃ ts, R = some ts ∧ ok = true ∧ Tl w w' sv ts) ∨ (R = none ∧ ok = false)) := by
  have HSp := hidK (split_any name 59 hl w h.env.max)
  have e59 : str [59] = (⟨#[59]⟩ : ByteArray) := rfl
  rw [e59] at HSp
  obtain ⟨ps, hps⟩ : ∃ ps, splitG 59 [] name = ps := ⟨_, rfl⟩
  have hsh : ∀ p ∈ ps, p.length ≤ 2147483647 := fun p hp => by
    rw [← hps] at hp
    have := splitG_short 59 name [] p hp
    simp at this
    omega
  have HR : Hid (joinT [] (turnsG ps) = some R) := by
    rw [join_nil, ← hps]
    exact hR
  rw [hps] at HSp
  have HSh := hidK hsh
  have HX := hidK h
  obtain ⟨n, hn⟩ : ∃ n, ps.length = n := ⟨_, rfl⟩
  have HN := hidK hn
  rw [hn] at HSp
  have hn1 : n ≤ 4294967296 := by
    have := splitG_count 59 name []
    rw [hps, hn] at this
    omega
  obtain ⟨z, hz⟩ : ∃ z, str name = z := ⟨_, rfl⟩
  rw [hz] at HSp ⊢
  clear h e59 hps hsh hn hz hR
  go_enter Tryz.func161, Tryz.ntmps161
  go_wp2_with fail
  refine HSp.out.mono ?_
  rintro x w1 ⟨rfl, rfl⟩
  have HB1 : Hid (Below w.heap.size w (w.alloc (.cells ((ps.map str).map Value.string).toArray 9))) := (Below.refl _ _).alloc (Nat.le_refl _) _
  have HCe := hidK (fun W (hW : Below (w.alloc (.cells ((ps.map str).map Value.string).toArray 9)).heap.size (w.alloc (.cells ((ps.map str).map Value.string).toArray 9)) W) (i : Nat) (p : List UInt8) (hp : ps[i]? = some p) => split_cells hW hp)
  obtain ⟨w1, hw1⟩ : ∃ w1, w.alloc (.cells ((ps.map str).map Value.string).toArray 9) = w1 := ⟨_, rfl⟩
  have HX1 := hidK (HX.out.below HB1.out)
  rw [hw1] at HB1 HCe HX1 ⊢
  clear HSp hw1 HX
  go_wp2_with fail
  go_loopw [6, 15] (fun s6 s15 wx => ∃ (k : Nat) (ts : List Turn), k ≤ n ∧ ts.length ≤ k ∧ s15 = .int .i64 (k : Int) ∧ Hid (Tl w1 wx s6 ts) ∧ Hid (joinT ts (turnsG (ps.drop k)) = some R)) (fun _ v _ => n - (intOf v).toNat)
  case atStart => exact ⟨0, [], Nat.zero_le _, Nat.le_refl _, rfl, Tl.nil (Below.refl _ _), HR.out⟩
  case round =>
    obtain ⟨k, ts, hk, htk, rfl, HT, HJ⟩ := hrel
    obtain ⟨sp, hsp⟩ : ∃ sp, u6 = sp := ⟨_, rfl⟩
    rw [hsp] at HT ⊢
    clear hsp
    have HBw : Hid (Below w.heap.size w wr) := HB1.out.trans (HT.out.world.mono HB1.out.size)
    by_cases hkn : k < n
    · obtain ⟨p, hp⟩ : ∃ p, ps[k]? = some p := ⟨_, List.getElem?_eq_getElem (by rw [HN.out]; exact hkn)⟩
      have q0 := HCe.out wr HT.out.world k p hp
      have hpl := HSh.out p (List.mem_of_getElem? hp)
      have hdr : ps.drop k = p :: ps.drop (k + 1) := by
        obtain ⟨h1, h2⟩ := List.getElem?_eq_some_iff.1 hp
        rw [List.drop_eq_getElem_cons h1, h2]
      rw [hdr, join_cons] at HJ
      have HXr := hidK (HX1.out.below HT.out.world)
      clear hp hdr
      cases p with
      | nil =>
        have hRn : R = none := by
          have := HJ.out
          simp only [turnF] at this
          exact (Option.some.inj this).symm
        have HRn := hidK hRn
        clear hRn
        have h0 : (str []).toList = [] := str_toList []
        have h1 : (str []).toList.isEmpty = true := by rw [h0]; rfl
        clear HJ HXr HX1 HR
        go_wp2_with fail
        all_goals go_ret2
        all_goals exact ⟨HBw.out, _, _, rfl, .inr ⟨HRn.out, rfl⟩⟩
      | cons c r =>
        rw [tr_turn] at HJ
        cases htf : trOf c with
        | none =>
          rw [htf] at HJ
          have HRn : Hid (R = none) := (Option.some.inj HJ.out).symm
          obtain ⟨m, hm, hv⟩ := turn_unknown HXr.out.turns htf
          have l0 := lookB_none hm underTurns Tryz.underlying5 (zeroTurner wr) hv
          have l1 := lookB_none (w := wr.drew) hm underTurns Tryz.underlying5 (zeroTurner wr.drew) hv
          have c3 := HXr.out.cell
          have hs' : (str (c :: r)).size = r.length + 1 := rfl
          have hnil : ¬ (str (c :: r)).toList = [] := by rw [str_toList]; simp
          have hemp : (str (c :: r)).toList.isEmpty = false := by rw [str_toList]; rfl
          have hg0 : ∀ h : 0 < (str (c :: r)).size, (str (c :: r))[0] = c := fun h => str_getF _ 0 c rfl h
          have hrl : r.length + 1 ≤ 2147483647 := hpl
          obtain ⟨y, hy⟩ : ∃ y, str (c :: r) = y := ⟨_, rfl⟩
          rw [hy] at hs' hnil hemp hg0 q0
          have hy0 : 0 < y.size := by omega
          have g0 := hg0 hy0
          clear hg0 hy hm hv htf HX1 HXr HR hpl HJ HT
          go_wp2_with fail
          go_region
          all_goals go_wp2_with fail
          all_goals go_ret2
          all_goals exact ⟨by first | exact HBw.out | exact HBw.out.drew, _, _, rfl, .inr ⟨HRn.out, rfl⟩⟩
        | some f =>
          rw [htf] at HJ
          obtain ⟨m, v, hm, hv, ⟨g, lb, rfl, eg, hcall⟩, hsi⟩ := turn_known HXr.out.turns htf
          have HSi := hidK hsi
          have HZ0 : Hid (w0.heap.size ≤ w1.heap.size) := HX1.out.turns.2.1
          have HEr := hidK HXr.out.env
          have l0 := lookB_some hm underTurns Tryz.underlying5 hv
          have l1 := lookB_some (w := wr.drew) hm underTurns Tryz.underlying5 hv
          have c3 := HXr.out.cell
          have hs' : (str (c :: r)).size = r.length + 1 := rfl
          have hD : (str (c :: r)).extract 1 (str (c :: r)).size = str r := str_dropF (c :: r) 1
          have hnil : ¬ (str (c :: r)).toList = [] := by rw [str_toList]; simp
          have hemp : (str (c :: r)).toList.isEmpty = false := by rw [str_toList]; rfl
          have hg0 : ∀ h : 0 < (str (c :: r)).size, (str (c :: r))[0] = c := fun h => str_getF _ 0 c rfl h
          have hrl : r.length + 1 ≤ 2147483647 := hpl
          have HCall := hidK (fun W (hW : Below wr.heap.size wr W) => hcall W (hsi.trans (.of_below hW)) (HEr.out.below hW) r (by omega))
          unfold Enters at eg
          obtain ⟨y, hy⟩ : ∃ y, str (c :: r) = y := ⟨_, rfl⟩
          obtain ⟨yr, hyr⟩ : ∃ yr, str r = yr := ⟨_, rfl⟩
          rw [hy] at hs' hD hnil hemp hg0 q0
          rw [hyr] at hD HCall
          rw [hs'] at hD
          have hy0 : 0 < y.size := by omega
          have g0 := hg0 hy0
          have HV := HT.out
          obtain ⟨vals, hmine, hoff⟩ := HV
          have HMi := hidK hmine
          have HOf := hidK hoff
          clear hg0 hy hyr hcall hm hv htf HX1 HXr HR hpl hsi hmine hoff
          go_wp2_with fail
          go_region
          all_goals go_wp2_with fail
          all_goals (
            refine (HCall.out _ (by repeat (first | exact Below.refl _ _ | apply Below.drew))).mono ?_
            rintro x w5 ⟨tv, ok, rfl, hb5, hres⟩)
          all_goals (rcases hres with ⟨t, hft, rfl, ht5⟩ | ⟨hft, rfl⟩)
          · have HJ2 : Hid (joinT (ts ++ [t]) (turnsG (ps.drop (k + 1))) = some R) := by
              have h := HJ.out
              rw [hft] at h
              exact h
            have HB5 := hidK (show Below wr.heap.size wr w5 from ((Below.refl _ _).drew : Below wr.heap.size wr wr.drew).trans hb5)
            have HT5 : Hid (TurnOk wr.heap.size w5 tv t ∨ ∃ B w0, TurnOk B w0 tv t ∧ Since B w0 wr ∧ w0.heap.size ≤ w1.heap.size) := ht5.imp id fun k => ⟨_, _, k, HSi.out, HZ0.out⟩
            have HF5 : ∃ g lb, tv = .func (.func g) #[] lb := by rcases ht5 with ⟨g, lb, h, _⟩ | ⟨g, lb, h, _⟩ <;> exact ⟨g, lb, h⟩
            obtain ⟨g2, lb2, rfl⟩ := HF5
            clear ht5
            clear hft hb5 HJ HCall l0 l1
            go_wp2_with (refine wpList_append_row (w5.alloc (.cells #[.func (.func g2) #[] lb2] 89)) rfl _ _ 180 180 rfl underTurnL infoTurn rfl (v := sp) (by simp [Act.eval]) (u := .slice (some ⟨w5.heap.size, 0, none⟩) 1 1) (by simp [Act.eval]) (HMi.out.row.below (HB5.out.trans (((Below.refl w5.heap.size w5).alloc (Nat.le_refl _) _).mono HB5.out.size))) (Src.block underTurnL _ _ [.func (.func g2) #[] lb2] _ 1 (heap_alloc_new w5 _) rfl rfl) ?x1 ?x2 ?x3)
            case x1 => omega
            case x2 => unfold maxLen; omega
            case x3 =>
              intro v7 w7 hr7 hg7
              have HT7 := hidK (Tl.grow HMi.out HOf.out HB5.out HT5.out ((Below.refl _ _).alloc (Nat.le_refl _) _) hr7.out hg7.out)
              clear hr7 hg7 HMi HOf HT
              go_wp2_with fail
              go_roundw
              case rel => exact ⟨k + 1, ts ++ [t], by omega, by simp; omega, by go_num, HT7.out, HJ2.out⟩
              case measure => simp [intOf]; omega
          · have HRn : Hid (R = none) := by
              have h := HJ.out
              rw [hft] at h
              exact (Option.some.inj h).symm
            have HB5 : Hid (Below w.heap.size w w5) := HBw.out.trans ((((Below.refl _ _).drew : Below wr.heap.size wr wr.drew).trans hb5).mono HBw.out.size)
            clear hft hb5 HJ HCall l0 l1
            go_wp2_with fail
            all_goals go_ret2
            all_goals exact ⟨HB5.out, _, _, rfl, .inr ⟨HRn.out, rfl⟩⟩
    · obtain rfl : k = n := by omega
      have hRs : R = some ts := by
        have h := HJ.out
        rw [List.drop_eq_nil_of_le (by rw [HN.out]; exact Nat.le_refl _)] at h
        have h2 : some (some (ts ++ [])) = some R := h
        rw [List.append_nil] at h2
        exact (Option.some.inj h2).symm
      have HRs := hidK hRs
      clear HJ HX1 HR hRs
      go_wp2_with fail
      all_goals go_ret2
      all_goals exact ⟨HBw.out, _, _, rfl, .inl ⟨ts, HRs.out, rfl, tl_older HB1.out HT.out⟩⟩

end Go.Proofs.YtlfcjcaofhcfnaaGreatDoor
