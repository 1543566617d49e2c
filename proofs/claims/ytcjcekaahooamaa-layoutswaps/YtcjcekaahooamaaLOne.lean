/-
  Layouts: the layout of one pane is read, checked, cut.
-/
import Derived.Test.YtcjcekaahooamaaLJoin
namespace Go.Proofs.Ytcjcekaahooamaa
open Go.RowKit
set_option linter.unusedVariables false
set_option maxRecDepth 100000

def oneCell (x y p : Int) : CellV := ⟨0, 1, 0, 0, x, y, p⟩
theorem new_sides {x y p : Int} (h : newErr x y p = 0) : (sideB x = true ∧ sideB y = true) ∧ idB p = true := by
  unfold newErr at h
  cases h1 : sideB x <;> cases h2 : sideB y <;> cases h3 : idB p <;> simp_all
theorem readF_one (x y p : Int) (h : newErr x y p = 0) : readF [oneCell x y p] = some (.leaf ⟨0, 0, x, y⟩ p) := by
  obtain ⟨⟨hx, hy⟩, hp⟩ := new_sides h
  have ht : takeF [oneCell x y p] 0 = some (.leaf ⟨0, 0, x, y⟩ p, []) := by
    rw [takeF_cons]
    rfl
  rw [readF_some (by simp) ht, if_pos ⟨by unfold Tree.sound; simp [hx, hy, hp], rfl, rfl⟩]
  rfl
theorem check_one (x y p : Int) (h : newErr x y p = 0) : checkE [oneCell x y p] = 0 := by
  unfold checkE
  rw [readF_one x y p h]
  rfl
theorem check_nil : checkE [] = 40 := by
  unfold checkE
  rw [readF_none (takeF_nil 0)]
  rfl
theorem joinE_one (x y p id : Int) (hi : idB id = true) (hne : id ≠ p) : joinE [oneCell x y p] id = 0 := by
  have h1 : idsOf [oneCell x y p] = [p] := rfl
  unfold joinE
  rw [h1, hi]
  simp [hne]

theorem l_way (g : Nat) (W : World) : (method 241 38 (.pointer (some ⟨g, 0, none⟩)) "mullion/layout.way").run Try.prog W = .ok (95, .pointer (some ⟨g, 0, none⟩)) W := by kernel_rfl
theorem l_fW (a c : Value) (W : World) : (callFunc 95 #[a, c]).run Try.prog W = .ok (.enter 95 #[a, c]) W := by kernel_rfl

/-- One pane cut in two, side by side. -/
def twoTree (x y p id : Int) : Tree := .split ⟨0, 0, x, y⟩ 2 [.leaf ⟨0, 0, x - halfF x - 1, y⟩ p, .leaf ⟨0, 0, halfF x, y⟩ id]
def twoCells (x y p id : Int) : List CellV := [⟨0, 2, 0, 0, x, y, 0⟩, ⟨1, 1, 0, 0, x - halfF x - 1, y, p⟩, ⟨1, 1, x - halfF x, 0, halfF x, y, id⟩]
theorem side_of {n : Int} (h : sideB n = true) : 1 ≤ n ∧ n ≤ 1000 := by
  unfold sideB at h
  simpa using h
theorem side_mk {n : Int} (h1 : 1 ≤ n) (h2 : n ≤ 1000) : sideB n = true := by
  unfold sideB
  simp [h1, h2]
theorem two_sound (x y p id : Int) (h : newErr x y p = 0) (h3 : 3 ≤ x) (hi : idB id = true) : (twoTree x y p id).sound = true := by
  obtain ⟨⟨hx, hy⟩, hp⟩ := new_sides h
  have hxs := side_of hx
  have ha : sideB (halfF x) = true := side_mk (by unfold halfF; omega) (by unfold halfF; omega)
  have hb : sideB (x - halfF x - 1) = true := side_mk (by unfold halfF; omega) (by unfold halfF; omega)
  unfold twoTree
  simp [Tree.sound, soundAll, Tree.kindIs, Tree.box, extAll, Box.ext, acrossK, hx, hy, hp, hi, ha, hb]
  omega
theorem two_tell (x y p id : Int) : ((twoTree x y p id).moved 0 0).tell 0 = twoCells x y p id := by
  unfold twoTree twoCells
  simp [Tree.moved, movedAll, Tree.tell, tellAll, Tree.box, Box.ext]
theorem two_around (x y p id : Int) : aroundB [.leaf ⟨0, 0, x - halfF x - 1, y⟩ p, .leaf ⟨0, 0, halfF x, y⟩ id] 2 = ⟨0, 0, x, y⟩ := by
  unfold aroundB
  simp [extAll, Tree.box, Box.ext]
  omega

/-- Two leaves joined and laid down. -/
theorem join_two (x y p id : Int) (h : newErr x y p = 0) (h3 : 3 ≤ x) (hi : idB id = true) (g1 g2 : Nat) (w : World) (h1 : LeafAt w g1 ⟨0, 0, x - halfF x - 1, y⟩ p) (h2 : LeafAt w g2 ⟨0, 0, halfF x, y⟩ id) (hne : g1 ≠ g2) :
    Calls Try.prog 35 #[.int .i64 2, .slice (some ⟨w.heap.size, 0, none⟩) 2 2] (w.alloc (.cells #[leafI g1, leafI g2] 35)) fun e w' => e = .returned (.pointer (some ⟨w.heap.size + 1, 0, none⟩)) ∧
      Calls Try.prog 11 #[splitI (w.heap.size + 1)] w' fun e w2 => ∃ u, e = .returned u ∧ CeOwns w2 w.heap.size u (twoCells x y p id) ∧ But [g1, g2] w w2 := by
  have hsz : (w.alloc (.cells #[leafI g1, leafI g2] 35)).heap.size = w.heap.size + 1 := by simp
  have hb0 : Below w.heap.size w (w.alloc (.cells #[leafI g1, leafI g2] 35)) := (Below.refl _ _).alloc (Nat.le_refl _) _
  obtain ⟨⟨hx, hy⟩, hp⟩ := new_sides h
  have hxs := side_of hx
  have hys := side_of hy
  have hP : partsAt (w.alloc (.cells #[leafI g1, leafI g2] 35)) 0 [.leaf ⟨0, 0, x - halfF x - 1, y⟩ p, .leaf ⟨0, 0, halfF x, y⟩ id] [leafI g1, leafI g2] [g1, g2] :=
    ⟨leafI g1, [leafI g2], [g1], [g2], rfl, ⟨g1, rfl, h1.below hb0, rfl⟩, ⟨leafI g2, [], [g2], [], rfl, ⟨g2, rfl, h2.below hb0, rfl⟩, ⟨rfl, rfl⟩, rfl⟩, rfl⟩
  have hl1 := lt_of_block h1
  have hl2 := lt_of_block h2
  have hj := join_none 2 (.inl rfl) w.heap.size 2 2 [leafI g1, leafI g2] [g1, g2] (.leaf ⟨0, 0, x - halfF x - 1, y⟩ p) [.leaf ⟨0, 0, halfF x, y⟩ id] _ (fun i u hu => by
    rw [cell_newL]
    simpa using hu) hP ⟨trivial, trivial, trivial⟩ ⟨by simp, by
      intro t ht
      simp only [List.mem_cons, List.not_mem_nil, or_false] at ht
      unfold halfF at ht
      rcases ht with rfl | rfl
      · exact ⟨⟨by show 1 ≤ x - (x - 1) / 2 - 1; omega, by show x - (x - 1) / 2 - 1 ≤ 1000; omega⟩, hys⟩
      · exact ⟨⟨by show 1 ≤ (x - 1) / 2; omega, by show (x - 1) / 2 ≤ 1000; omega⟩, hys⟩⟩ (by
      intro t ht
      simp only [List.mem_cons, List.not_mem_nil, or_false] at ht
      rcases ht with rfl | rfl <;> rfl) rfl
  rw [two_around] at hj
  refine hj.mono ?_
  rintro e w' ⟨sl, rfl, e1, e2, e3⟩
  rw [hsz] at e1 e2 e3 ⊢
  refine ⟨rfl, ?_⟩
  have e3' : Below (w.heap.size + 1) (w.alloc (.cells #[leafI g1, leafI g2] 35)) w' := e3
  have hAt : (twoTree x y p id).At w' 0 (splitI (w.heap.size + 1)) ((w.heap.size + 1) :: (sl.ownBlock.toList ++ [g1, g2])) := by
    refine ⟨w.heap.size + 1, sl, [leafI g1, leafI g2], [g1, g2], rfl, e1, ⟨e2.1, ?_⟩, ?_, rfl⟩
    · rcases e2.2 with h0 | ⟨g, cap, cur, e, _, r⟩
      · exact .inl h0
      · exact .inr ⟨g, cap, cur, e, Nat.zero_le _, r⟩
    · refine hP.keep fun q hq => e3'.block q ?_
      simp only [List.mem_cons, List.not_mem_nil, or_false] at hq
      rcases hq with rfl | rfl <;> omega
  have hnd : ((w.heap.size + 1) :: (sl.ownBlock.toList ++ [g1, g2])).Nodup := by
    have hsl : ∀ q ∈ sl.ownBlock.toList, w.heap.size + 1 + 1 ≤ q := fun q hq => (World.ownsRow.lt e2 q (by simpa using hq)).1
    refine List.nodup_cons.2 ⟨fun hm => ?_, List.nodup_append.2 ⟨by cases sl.ownBlock <;> simp, by simp [hne], fun a ha b hb e => ?_⟩⟩
    · rcases List.mem_append.1 hm with hm | hm
      · have := hsl _ hm; omega
      · simp only [List.mem_cons, List.not_mem_nil, or_false] at hm
        rcases hm with hm | hm <;> omega
    · subst e
      have := hsl _ ha
      simp only [List.mem_cons, List.not_mem_nil, or_false] at hb
      rcases hb with hb | hb <;> omega
  refine (lay_any (twoTree x y p id) 0 _ _ w' hAt hnd (two_sound x y p id h h3 hi) ⟨.inl rfl, by simp, trivial, trivial, trivial⟩ (by unfold twoTree; simp [Tree.size, sizes])).mono ?_
  rintro e w2 ⟨u, rfl, k1, k2, k3⟩
  rw [two_tell] at k1
  have hw' := e3'.size
  refine ⟨u, rfl, k1.lower (by omega), ⟨k3.os.trans (e3'.os.trans hb0.os), k3.tape.trans (e3'.tape.trans hb0.tape), k3.output.trans (e3'.output.trans hb0.output), Nat.le_trans (Nat.le_trans hb0.size e3'.size) k3.size, fun q hq hn => ?_⟩⟩
  refine (k3.block q (by omega) fun hm => ?_).trans ((e3'.block q (by omega)).trans (hb0.block q hq))
  rcases List.mem_cons.1 hm with hm | hm
  · omega
  · rcases List.mem_append.1 hm with hm | hm
    · have := (World.ownsRow.lt e2 q (by simpa using hm)).1
      omega
    · exact hn hm

set_option maxHeartbeats 2000000 in
theorem split_one (v : Value) (x y p id : Int) (w : World) (hv : CellsIn w v [oneCell x y p]) (h : newErr x y p = 0) (h3 : 3 ≤ x) (hi : idB id = true) (hne : id ≠ p) :
    Calls Try.prog 17 #[v, .int .i64 p, .int .i64 2, .int .i64 0, .bool false, .int .i64 id] w fun e w' => ∃ u, e = .returned (.tuple #[u, .int .i64 0]) ∧ CeOwns w' w.heap.size u (twoCells x y p id) ∧ Below w.heap.size w w' := by
  have HR : Hid (Calls Try.prog 10 #[v] w fun e w1 => ∃ g, e = .returned (leafI g) ∧ w.heap.size ≤ g ∧ LeafAt w1 g ⟨0, 0, x, y⟩ p ∧ Below w.heap.size w w1) := by
    refine (read_any v _ w hv).mono ?_
    rintro e w1 (⟨hF, _⟩ | ⟨t, T, g, fp, hF, rfl, hAt, hnd, hge, hb⟩)
    · rw [readF_one x y p h] at hF
      cases hF
    · rw [readF_one x y p h] at hF
      cases hF
      obtain ⟨g', e1, e2, e3⟩ := hAt
      cases e1
      subst e3
      exact ⟨g, rfl, hge g (by simp), e2, hb⟩
  have HC : Hid (∀ W, Calls Try.prog 28 #[.int .i64 2] W fun e w' => e = .returned (.bool true) ∧ W = w') := fun W => isCut_any 2 W
  have HM : Hid (∀ W, Below w.heap.size w W → Calls Try.prog 29 #[v, .int .i64 id] W fun e w' => e = .returned (.int .i64 0) ∧ Below W.heap.size W w') := fun W hW => joinE_one x y p id hi hne ▸ mayJoin_any v _ id W (hv.below hW) (by simp)
  obtain ⟨⟨hx, hy⟩, hp⟩ := new_sides h
  have hxs := side_of hx
  have hys := side_of hy
  have HW : Hid (∀ W, Calls Try.prog 31 #[.int .i64 0, .int .i64 x] W fun e w' => e = .returned (.int .i64 (halfF x)) ∧ W = w') := fun W => wanted_any 0 x W (by omega)
  have hhb : 1 ≤ halfF x ∧ halfF x ≤ x - 2 := by unfold halfF; omega
  have HJ : Hid (∀ g1 g2 W, LeafAt W g1 ⟨0, 0, x - halfF x - 1, y⟩ p → LeafAt W g2 ⟨0, 0, halfF x, y⟩ id → g1 ≠ g2 → _) := fun g1 g2 W a b c => join_two x y p id h h3 hi g1 g2 W a b c
  obtain ⟨n, hn⟩ : ∃ n, halfF x = n := ⟨_, rfl⟩
  rw [hn] at HW hhb HJ
  have w1e : IntKind.i64.wrap (x - 2) = x - 2 := by rw [IntKind.wrap_i64]; omega
  have w2e : IntKind.i64.wrap (-n) = -n := by rw [IntKind.wrap_i64]; omega
  have w3e : IntKind.i64.wrap (-n - 1) = -n - 1 := by rw [IntKind.wrap_i64]; omega
  have hmin : min n (x - 2) = n := by omega
  have hx3 : ¬ (x < 3) := by omega
  have HH : Hid ((1 ≤ n ∧ n ≤ x - 2) ∧ (1 ≤ x ∧ x ≤ 1000) ∧ (1 ≤ y ∧ y ≤ 1000)) := ⟨hhb, hxs, hys⟩
  have hvs := hv.length
  obtain ⟨ad, cap, rfl⟩ := hvs
  obtain ⟨l1, hl1⟩ : ∃ l, twoCells x y p id = l := ⟨_, rfl⟩
  rw [hl1] at HJ ⊢
  clear hn hxs hys hx hy hp hi hne h h3 hv hhb hl1
  have HMS : Hid (∀ g W, (method 241 38 (.pointer (some ⟨g, 0, none⟩)) "mullion/layout.way").run Try.prog W = .ok (95, .pointer (some ⟨g, 0, none⟩)) W) := l_way
  have HFW : Hid (∀ a c W, (callFunc 95 #[a, c]).run Try.prog W = .ok (.enter 95 #[a, c]) W) := l_fW
  go_enter Try.func17, Try.ntmps17
  go_wp2_with fail
  refine HR.out.mono ?_
  rintro e w1 ⟨g, rfl, hg, hL, hb⟩
  have HL : Hid (LeafAt w1 g ⟨0, 0, x, y⟩ p) := hL
  have HB : Hid (Below w.heap.size w w1) := hb
  have HG : Hid (w.heap.size ≤ g) := hg
  have m1 := HMS.out g
  have m2 := HFW.out
  have HWy : Hid (Calls Try.prog 95 #[.pointer (some ⟨g, 0, none⟩), .int .i64 p] w1 fun e w' => e = .returned (.tuple #[.slice none 0 0, .pointer (some ⟨g, 0, none⟩)]) ∧ w1 = w') := leaf_way_yes g _ p w1 hL
  clear hL hb hg HR HMS HFW
  unfold leafI
  go_wp2_with (go_at_call 28; refine (HC.out _).mono ?_; rintro e w2 ⟨rfl, rfl⟩)
  refine HWy.out.mono ?_
  rintro e w2 ⟨rfl, rfl⟩
  clear m1 m2 HWy
  go_wp2_with fail
  refine (HM.out w1 HB.out).mono ?_
  rintro e w2 ⟨rfl, hb2⟩
  have HL2 : Hid (LeafAt w2 g ⟨0, 0, x, y⟩ p) := HL.out.below hb2
  have HB2 : Hid (Below w.heap.size w w2) := below_step HB.out hb2
  have HE2 : Hid (Calls Try.prog 30 #[.pointer (some ⟨g, 0, none⟩), .int .i64 2] w2 fun e w' => e = .returned (.int .i64 x) ∧ w2 = w') := box_extent g ⟨0, 0, x, y⟩ 2 w2 HL2.out.box
  have HWi : Hid (Calls Try.prog 32 #[.pointer (some ⟨g, 0, none⟩), .int .i64 2, .int .i64 n] w2 fun e w' => e = .returned (.agg #[.int .i64 0, .int .i64 0, .int .i64 n, .int .i64 y]) ∧ Below w2.heap.size w2 w') := by
    have hh := HH.out
    have hb := box_with g ⟨0, 0, x, y⟩ 2 n w2 HL2.out.box ⟨by show 0 ≤ x; omega, by show x ≤ 1000; omega⟩ ⟨by show 0 ≤ y; omega, by show y ≤ 1000; omega⟩ (by omega)
    have he : (⟨0, 0, x, y⟩ : Box).with 2 n = ⟨0, 0, n, y⟩ := by
      unfold Box.with Box.str Box.ext
      simp
      omega
    rw [he] at hb
    exact hb
  clear hb2 HL HB HM
  go_wp2_with (first | (go_at_call 30; refine HE2.out.mono ?_; rintro e w3 ⟨rfl, rfl⟩) | (go_at_call 31; refine (HW.out _).mono ?_; rintro e w3 ⟨rfl, rfl⟩))
  refine HWi.out.mono ?_
  rintro e w3 ⟨rfl, hb3⟩
  have HL3 : Hid (∀ o, LeafAt (w3.alloc o) g ⟨0, 0, x, y⟩ p) := fun o => (HL2.out.below hb3).below ((Below.refl _ _).alloc (Nat.le_refl _) o)
  have HN3 : Hid (LeafAt (w3.alloc (.cells #[.int .i64 0, .int .i64 0, .int .i64 n, .int .i64 y, .int .i64 id] 44)) w3.heap.size ⟨0, 0, n, y⟩ id) := heap_alloc_new _ _
  have HB3 : Hid (∀ o, Below w.heap.size w (w3.alloc o)) := fun o => (below_step HB2.out hb3).alloc (below_step HB2.out hb3).size o
  have HG3 : Hid (g < w3.heap.size) := lt_of_block (HL2.out.below hb3)
  have HSz : Hid (w.heap.size ≤ w3.heap.size) := (below_step HB2.out hb3).size
  have HSt : Hid (∀ o, Calls Try.prog 33 #[.pointer (some ⟨g, 0, none⟩), .int .i64 2, .int .i64 (-n - 1)] (w3.alloc o) fun e w' => e = .returned (.tuple #[]) ∧ LeafAt w' g ⟨0, 0, x - n - 1, y⟩ p ∧ (w3.alloc o).grownBy w' (some g)) := fun o => by
    have hh := HH.out
    have he : (⟨0, 0, x, y⟩ : Box).str 2 (-n - 1) = ⟨0, 0, x - n - 1, y⟩ := by
      unfold Box.str
      simp
      omega
    have := leaf_stretches g ⟨0, 0, x, y⟩ p 2 (-n - 1) (w3.alloc o) (HL3.out o) ⟨by show _ ≤ x; omega, by show x ≤ _; omega⟩ ⟨by show _ ≤ y; omega, by show y ≤ _; omega⟩ (by omega)
    rw [he] at this
    exact this
  clear hb3 HL2 HB2 HE2 HWi HL3 HW HC
  go_wp2_with fail
  refine (HSt.out _).mono ?_
  rintro e w5 ⟨rfl, hL5, hg5⟩
  have HN5 : Hid (LeafAt w5 w3.heap.size ⟨0, 0, n, y⟩ id) := by
    refine (hg5.block w3.heap.size (by simp) ?_).trans HN3.out
    have := HG3.out
    simp
    omega
  have HB5 : Hid (Below w.heap.size w w5) := below_grown (HB3.out _) hg5 HG.out
  have HL5 : Hid (LeafAt w5 g ⟨0, 0, x - n - 1, y⟩ p) := hL5
  have HJ5 : Hid (Calls Try.prog 35 _ _ _) := HJ.out g w3.heap.size w5 hL5 HN5.out (by have := HG3.out; omega)
  have HO5 : Hid (Calls Try.prog 36 #[.iface 38 (.pointer (some ⟨g, 0, none⟩)), .iface 38 (.pointer (some ⟨w3.heap.size, 0, none⟩)), .bool false] w5 fun e w' => e = .returned (.slice (some ⟨w5.heap.size, 0, none⟩) 2 2) ∧ w' = w5.alloc (.cells #[leafI g, leafI w3.heap.size] 35)) := inOrder_any _ _ g w3.heap.size false w5
  clear hL5 hg5 HSt HN3 HB3 HJ HN5 HL5
  go_wp2_with (go_at_call 36; refine HO5.out.mono ?_; rintro e w6 ⟨rfl, h6⟩; subst h6)
  refine HJ5.out.mono ?_
  rintro e w7 ⟨rfl, hl7⟩
  have HL7 : Hid (Calls Try.prog 11 #[splitI (w5.heap.size + 1)] w7 _) := hl7
  have HRp : Hid (Calls Try.prog 34 #[.iface 38 (.pointer (some ⟨g, 0, none⟩)), .slice none 0 0, splitI (w5.heap.size + 1)] w7 fun e w' => e = .returned (splitI (w5.heap.size + 1)) ∧ w7 = w') := replace_root _ _ none 0 w7
  unfold splitI at HL7 HRp
  clear hl7 HJ5 HO5
  go_wp2_with (go_at_call 34; refine HRp.out.mono ?_; rintro e w8 ⟨rfl, rfl⟩)
  refine HL7.out.mono ?_
  rintro e w9 ⟨u, rfl, hu, hbut⟩
  have HU : Hid (CeOwns w9 w5.heap.size u l1) := hu
  have HBt : Hid (But [g, w3.heap.size] w5 w9) := hbut
  clear hu hbut HL7 HRp
  go_wp2
  go_ret2
  have hB := HB5.out
  have hbt := HBt.out
  have hgg := HG.out
  have h3s := HSz.out
  refine ⟨u, rfl, HU.out.lower HB5.out.size, ⟨hbt.os.trans hB.os, hbt.tape.trans hB.tape, hbt.output.trans hB.output, Nat.le_trans hB.size hbt.size, fun q hq => (hbt.block q (by have := hB.size; omega) fun hm => ?_).trans (hB.block q hq)⟩⟩
  simp only [List.mem_cons, List.not_mem_nil, or_false] at hm
  rcases hm with hm | hm <;> omega

end Go.Proofs.Ytcjcekaahooamaa
