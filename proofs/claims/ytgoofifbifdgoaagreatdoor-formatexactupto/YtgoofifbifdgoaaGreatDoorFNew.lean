/-
  Formats: an expander is made.
-/
import Derived.Test.YtgoofifbifdgoaaGreatDoorFHeads
import Derived.Test.YtgoofifbifdgoaaGreatDoorFVal
import Derived.Deep.RegionHeld3
namespace Go.Proofs.YtgoofifbifdgoaaGreatDoor
open Go.RowKit
set_option linter.unusedVariables false
set_option maxRecDepth 100000

/-- The expander, whole. -/
structure XAll (w : World) (xb : Nat) (vs : Vars) : Prop where
  at_ : ∃ mh mt w0, XAt w xb vs mh mt ∧ HeadsAt w mh ∧ TurnsAt w0 w mt
theorem XAll.below {w w' : World} {xb : Nat} {vs : Vars} (h : XAll w xb vs) (hb : Below w.heap.size w w') : XAll w' xb vs := by
  obtain ⟨mh, mt, w0, h1, h2, h3⟩ := h.at_
  exact ⟨mh, mt, w0, h1.below hb, h2.below hb, h3.below hb⟩
/-- The names so far. -/
def FirstTo (m : Ents) (vs : Vars) (k : Nat) : Prop := FirstOk m (vs.take k)
theorem FirstTo.zero (vs : Vars) : FirstTo [] vs 0 := fun name => rfl
theorem idx_take {vs : Vars} {k : Nat} {p : List UInt8 × List UInt8} (hp : vs[k]? = some p) (name : List UInt8) : (vs.take (k + 1)).findIdx? (fun v => decide (v.1 = name)) = ((vs.take k).findIdx? (fun v => decide (v.1 = name))).or (if p.1 = name then some k else none) := by
  have hk := (List.getElem?_eq_some_iff.1 hp).1
  rw [List.take_add_one, hp]
  simp only [Option.toList_some]
  rw [List.findIdx?_append]
  cases h : (vs.take k).findIdx? (fun v => decide (v.1 = name)) with
  | some i => rfl
  | none =>
    simp only [Option.none_or]
    by_cases hn : p.1 = name
    · simp [hn]; omega
    · simp [hn]
theorem FirstTo.known {m : Ents} {vs : Vars} {k : Nat} (h : FirstTo m vs k) {p : List UInt8 × List UInt8} (hp : vs[k]? = some p) {v : Value} (hv : lookT m p.1 = some v) : FirstTo m vs (k + 1) := fun name => by
  have h1 := h name
  rw [idx_take hp]
  by_cases hn : p.1 = name
  · subst hn
    rw [h1] at hv ⊢
    cases hf : (vs.take k).findIdx? (fun v => decide (v.1 = p.1)) with
    | none => rw [hf] at hv; cases hv
    | some i => rfl
  · rw [if_neg hn, Option.or_none]
    exact h1
theorem look_snoc (m : Ents) (k : List UInt8) (v : Value) (name : List UInt8) : lookT (m ++ [(k, v)]) name = (lookT m name).or (if k = name then some v else none) := by
  unfold lookT
  rw [List.find?_append]
  cases h : m.find? (fun p => decide (p.1 = name)) with
  | some q => rfl
  | none =>
    by_cases hk : k = name
    · simp [hk]
    · simp [hk]
theorem FirstTo.fresh {m : Ents} {vs : Vars} {k : Nat} (h : FirstTo m vs k) {p : List UInt8 × List UInt8} (hp : vs[k]? = some p) (hv : lookT m p.1 = none) : FirstTo (m ++ [(p.1, .int .i64 (k : Int))]) vs (k + 1) := fun name => by
  have h1 := h name
  rw [idx_take hp, look_snoc, h1]
  by_cases hn : p.1 = name
  · subst hn
    rw [h1] at hv
    cases hf : (vs.take k).findIdx? (fun v => decide (v.1 = p.1)) with
    | some i => rw [hf] at hv; cases hv
    | none => simp
  · rw [if_neg hn, if_neg hn, Option.or_none, Option.or_none]
theorem FirstTo.all {m : Ents} {vs : Vars} {k : Nat} (h : FirstTo m vs k) (hk : vs.length ≤ k) : FirstOk m vs := by
  have := h
  unfold FirstTo at this
  rwa [List.take_of_length_le hk] at this

theorem TurnsAt.but {w0 w w' : World} {b f : Nat} (h : TurnsAt w0 w b) (hb : But [f] w w') (hf : f < b ∨ w0.heap.size ≤ f ∧ f ≠ b) : TurnsAt w0 w' b := by
  obtain ⟨hs, m, h1, h2⟩ := h
  exact ⟨⟨Nat.le_trans hs.size hb.size, fun k hk hl => (hb.block k (Nat.lt_of_lt_of_le hl hs.size) (by simp; omega)).trans (hs.block k hk hl)⟩, m, h1.keep (hb.block b h1.lt (by simp; omega)), h2⟩
/-- While the names are laid in. -/
structure NI (w w1 W : World) (xb mf mt : Nat) (sv : Value) (vs : Vars) (m : Ents) (k : Nat) : Prop where
  blk : W.heap[xb]? = some (.cells #[sv, .map (some mf), .map none, .map (some mt)] 61 (0, 0))
  map : MapAt W mf m
  first : FirstTo m vs k
  below : Below w.heap.size w W
  turns : TurnsAt w1 W mt
  old : w.heap.size ≤ mf ∧ mf < mt ∧ mt < xb
  late : w1.heap.size ≤ xb
theorem NI.more {w w1 W W' : World} {xb mf mt : Nat} {sv : Value} {vs : Vars} {m : Ents} {k : Nat} (h : NI w w1 W xb mf mt sv vs m k) (hb : Below W.heap.size W W') : NI w w1 W' xb mf mt sv vs m k :=
  ⟨(hb.block xb (lt_of_block h.blk)).trans h.blk, h.map.below hb, h.first, h.below.trans (hb.mono h.below.size), h.turns.below hb, h.old, h.late⟩
theorem NI.laid {w w1 W W' : World} {xb mf mt : Nat} {sv : Value} {vs : Vars} {m m' : Ents} {k k' : Nat} (h : NI w w1 W xb mf mt sv vs m k) (hm : MapAt W' mf m') (hb : But [mf] W W') (hf : FirstTo m' vs k') : NI w w1 W' xb mf mt sv vs m' k' := by
  obtain ⟨o1, o2, o3⟩ := h.old
  exact ⟨(hb.block xb (lt_of_block h.blk) (by simp; omega)).trans h.blk, hm, hf, hb.under h.below h.below.size (fun k hk => by rw [List.mem_singleton.1 hk]; exact o1), h.turns.but hb (.inl o2), h.old, h.late⟩

theorem set_third {w : World} {R : Nat} {a b c d : Value} {t : TypeId} (h : w.heap[R]? = some (.cells #[a, b, c, d] t (0, 0))) (u : Value) : (w.setCell ⟨R, 2, none⟩ u).heap[R]? = some (.cells #[a, b, u, d] t (0, 0)) := heap_setCell_same w R 2 _ _ _ h
theorem new_end {w w1 wr w3 : World} {xb mf mt mh n : Nat} {sv : Value} {vs : Vars} {m : Ents} (hn : vs.length = n) (hv : VarsIn w sv vs) (hb : Below wr.heap.size wr w3) (hmh : wr.heap.size ≤ mh) (h0 : NI w w1 wr xb mf mt sv vs m n) (h : NI w w1 w3 xb mf mt sv vs m n) (hh : HeadsAt w3 mh) :
    Below w.heap.size w (w3.setCell ⟨xb, 2, none⟩ (.map (some mh))) ∧ XAll (w3.setCell ⟨xb, 2, none⟩ (.map (some mh))) xb vs := by
  obtain ⟨o1, o2, o3⟩ := h.old
  have hxl := lt_of_block h0.blk
  have hB : Below w.heap.size w (w3.setCell ⟨xb, 2, none⟩ (.map (some mh))) := Below.setCell h.below (by show w.heap.size ≤ xb; omega) _
  have hk : ∀ k, k ≠ xb → (w3.setCell ⟨xb, 2, none⟩ (.map (some mh))).heap[k]? = w3.heap[k]? := fun k hk => Below.heap_setCell _ _ _ _ hk
  have hbut : But [xb] w3 (w3.setCell ⟨xb, 2, none⟩ (.map (some mh))) := But.setCell (But.refl _ _) (.inl (by simp)) _
  refine ⟨hB, mh, mt, w1, ⟨sv, mf, m, set_third h.blk _, hv.below hB, h.map.keep (hk mf (by omega)), h.first.all (by omega)⟩, ?_, ?_⟩
  · obtain ⟨mm, hm1, hm2⟩ := hh
    exact ⟨mm, hm1.keep (hk mh (by omega)), hm2⟩
  · exact h.turns.but hbut (.inr ⟨h.late, by omega⟩)

set_option maxHeartbeats 4000000 in
theorem new_any {w : World} {sv : Value} {vs : Vars} (hv : VarsIn w sv vs) : Calls Tryz.prog 19 #[sv] w fun e w' => ∃ xb, e = .returned (.pointer (some ⟨xb, 0, none⟩)) ∧ Below w.heap.size w w' ∧ XAll w' xb vs := by
  have hmk := run_makeMap (P := Tryz.prog) 56 w
  have HV := hidK hv
  obtain ⟨ad, cap, rfl, hn, hc⟩ := hv
  obtain ⟨n, hnn⟩ : ∃ n, vs.length = n := ⟨_, rfl⟩
  rw [hnn] at hn HV ⊢
  have HN := hidK hnn
  have HC := hidK hc
  clear hc hnn
  go_enter Tryz.func19, Tryz.ntmps19
  go_wp2_with fail
  refine (turners_any _).mono ?_
  rintro x w1 ⟨mt, rfl, hb1, hmt, hT⟩
  have HB1 := hidK hb1
  have HT := hidK hT
  have H0 : Hid (NI w w1 (w1.alloc (.cells #[.slice ad n cap, .map (some w.heap.size), .map none, .map (some mt)] 61)) w1.heap.size w.heap.size mt (.slice ad n cap) vs [] 0) := by
    have hA : Below w1.heap.size w1 (w1.alloc (.cells #[.slice ad n cap, .map (some w.heap.size), .map none, .map (some mt)] 61)) := (Below.refl _ _).alloc (Nat.le_refl _) _
    have hm0 : MapAt (w.alloc (.map #[] 0)) w.heap.size [] := ⟨#[], 0, heap_alloc_new w _, rfl⟩
    have hw0 : Below w.heap.size w (w.alloc (.map #[] 0)) := (Below.refl _ _).alloc (Nat.le_refl _) _
    have hmt' : w.heap.size + 1 ≤ mt := by simpa using hmt
    obtain ⟨_, mm, hmm, _⟩ := hT
    have hlt := hmm.lt
    exact ⟨heap_alloc_new w1 _, (hm0.below hb1).below hA, FirstTo.zero vs, (hw0.trans (hb1.mono hw0.size)).trans (hA.mono (hw0.trans (hb1.mono hw0.size)).size), HT.out.below hA, ⟨Nat.le_refl _, by omega, hlt⟩, Nat.le_refl _⟩
  obtain ⟨mf, hmf⟩ : ∃ mf, w.heap.size = mf := ⟨_, rfl⟩
  obtain ⟨xb, hxb⟩ : ∃ xb, w1.heap.size = xb := ⟨_, rfl⟩
  clear hb1 hmk hT
  go_wp2_with fail
  rw [hmf] at H0
  try simp only [hmf, hxb]
  rw [hxb] at H0
  go_loopw [15] (fun s15 wx => ∃ (k : Nat) (m : Ents), k ≤ n ∧ s15 = .int .i64 (k : Int) ∧ Hid (NI w w1 wx xb mf mt (.slice ad n cap) vs m k)) (fun v _ => n - (intOf v).toNat)
  case atStart => exact ⟨0, [], Nat.zero_le _, rfl, H0.out⟩
  case round =>
    obtain ⟨k, m, hk, rfl, HI⟩ := hrel
    by_cases hkn : k < n
    · obtain ⟨p, hp⟩ : ∃ p, vs[k]? = some p := ⟨_, List.getElem?_eq_getElem (by rw [HN.out]; exact hkn)⟩
      obtain ⟨g, o, rfl, hg, q0, q1⟩ := HC.out k p hp
      have q0' := (HI.out.below.cell (p := ⟨g, o + k * 2, none⟩) hg).trans q0
      have q1' := (HI.out.below.cell (p := ⟨g, o + k * 2 + 1, none⟩) hg).trans q1
      obtain ⟨z, hz⟩ : ∃ z, str p.1 = z := ⟨_, rfl⟩
      obtain ⟨y, hy⟩ : ∃ y, str p.2 = y := ⟨_, rfl⟩
      rw [hz] at q0'
      rw [hy] at q1'
      have HIX := hidK (HI.out.more ((Below.refl _ _).alloc (Nat.le_refl _) (.cells #[.string z, .string y] 29)))
      have n0 : (wr.alloc (.cells #[.string z, .string y] 29)).cell? ⟨wr.heap.size, 0, none⟩ = some (.string z) := cell_atT (heap_alloc_new wr (.cells #[.string z, .string y] 29)) 0
      obtain ⟨X, hX⟩ : ∃ X, wr.alloc (.cells #[.string z, .string y] 29) = X := ⟨_, rfl⟩
      rw [hX] at HIX n0
      have HX := hidK hX
      have b1 : X.cell? ⟨xb, 1, none⟩ = some (.map (some mf)) := cell_atT HIX.out.blk 1
      have HP := hidK hp
      have HZ := hidK hz
      clear q0 q1 hX hp hz hy
      cases hlk : lookT m p.1 with
      | some v =>
        have HF := hidK (HIX.out.first.known HP.out hlk)
        have l0 := look_some HIX.out.map under56 Tryz.underlying9 hlk
        have l1 := look_some (w := X.drew) HIX.out.map under56 Tryz.underlying9 hlk
        rw [HZ.out] at l0 l1
        have HN2 : Hid (∀ Y, Below X.heap.size X Y → NI w w1 Y xb mf mt (.slice (some ⟨g, o, none⟩) n cap) vs m (k + 1)) := fun Y hY => by
          have h := HIX.out.more hY
          exact ⟨h.blk, h.map, HF.out, h.below, h.turns, h.old, h.late⟩
        clear hlk
        go_wp2_with fail
        rw [HX.out]
        go_region
        all_goals go_wp2_with fail
        all_goals (
          go_roundw
          case rel => exact ⟨k + 1, m, by omega, by go_num, HN2.out _ (by repeat (first | exact Below.refl _ _ | apply Below.drew))⟩
          case measure => simp [intOf]; omega)
      | none =>
        have HF := hidK (HIX.out.first.fresh HP.out hlk)
        have l0 := look_none HIX.out.map under56 Tryz.underlying9 (zeroInt X) hlk
        have l1 := look_none (w := X.drew) HIX.out.map under56 Tryz.underlying9 (zeroInt X.drew) hlk
        rw [HZ.out] at l0 l1
        obtain ⟨Y1, r1, y1, u1⟩ := lay_new (w := X.drew) (v := .int .i64 (k : Int)) HIX.out.map under56 Tryz.underlying9 hlk
        obtain ⟨Y2, r2, y2, u2⟩ := lay_new (w := X.drew.drew) (v := .int .i64 (k : Int)) HIX.out.map under56 Tryz.underlying9 hlk
        rw [HZ.out] at r1 r2
        have hd1 : Below X.heap.size X X.drew := (Below.refl _ _).drew
        have hd2 : Below X.heap.size X X.drew.drew := hd1.drew
        have HN1 : Hid (∀ Z, Below Y1.heap.size Y1 Z → NI w w1 Z xb mf mt (.slice (some ⟨g, o, none⟩) n cap) vs (m ++ [(p.1, .int .i64 (k : Int))]) (k + 1)) := fun Z hZ => ((HIX.out.more hd1).laid y1 u1 HF.out).more hZ
        have HN2 : Hid (∀ Z, Below Y2.heap.size Y2 Z → NI w w1 Z xb mf mt (.slice (some ⟨g, o, none⟩) n cap) vs (m ++ [(p.1, .int .i64 (k : Int))]) (k + 1)) := fun Z hZ => ((HIX.out.more hd2).laid y2 u2 HF.out).more hZ
        clear hlk y1 u1 y2 u2 hd1 hd2
        go_wp2_with fail
        rw [HX.out]
        go_region
        all_goals go_wp2_with fail
        all_goals go_region
        all_goals go_wp2_with fail
        all_goals (
          go_roundw
          case rel => first
            | exact ⟨k + 1, _, by omega, by go_num, HN2.out _ (by repeat (first | exact Below.refl _ _ | apply Below.drew))⟩
            | exact ⟨k + 1, _, by omega, by go_num, HN1.out _ (by repeat (first | exact Below.refl _ _ | apply Below.drew))⟩
          case measure => simp [intOf]; omega)
    · obtain rfl : k = n := by omega
      have HHd := hidK (fun Y => heads_any xb Y)
      have b2 : ∀ Y, Below wr.heap.size wr Y → ∃ u, Y.cell? ⟨xb, 2, none⟩ = some u ∧ ∀ j, Y.frozen? ⟨xb, j, none⟩ = false := fun Y hY => ⟨_, cell_atT (HI.out.more hY).blk 2, fun j => free_atT (HI.out.more hY).blk j⟩
      have HB2 := hidK b2
      clear b2
      go_wp2_with fail
      refine (HHd.out wr).mono ?_
      rintro x w3 ⟨mh, rfl, hb3, hmh, hh3⟩
      obtain ⟨u, c2, f2⟩ := HB2.out w3 hb3
      have HI3 := hidK (HI.out.more hb3)
      have HH3 := hidK hh3
      have HB3 := hidK hb3
      have HMh := hidK hmh
      clear hb3 hh3 hmh
      go_wp2_with fail
      all_goals go_ret
      all_goals exact ⟨xb, rfl, new_end HN.out HV.out HB3.out HMh.out HI.out HI3.out HH3.out⟩

end Go.Proofs.YtgoofifbifdgoaaGreatDoor
