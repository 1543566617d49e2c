/-
  Layouts: the document's Room; least extents on both sides.
-/
import Derived.Test.YtammadcigfbgeaaLRoom
namespace Go.Proofs.Ytammadcigfbgeaa
open Go.RowKit
set_option linter.unusedVariables false
set_option maxRecDepth 100000

theorem nodesOf_get : ∀ (ts : List Tree) (i : Nat) (t : Tree), ts[i]? = some t → (nodesOf ts)[i]? = some (nodeOf t)
  | [], i, t, h => by simp at h
  | a :: ts, 0, t, h => by
    simp at h
    subst h
    rfl
  | a :: ts, i + 1, t, h => by
    show (nodesOf ts)[i]? = _
    exact nodesOf_get ts i t (by simpa using h)

def RoomGood (t : Tree) : Prop := ∀ sl fp w d, (nodeOf t).In w sl fp → Calls Try.prog 61 #[.agg (nodeV (nodeOf t) sl), .int .i64 d] w fun e w' => e = .returned (.int .i64 (t.room d)) ∧ Below w.heap.size w w'

theorem room_leafN (b : Box) (p : Int) (hs : (Tree.leaf b p).sound = true) : RoomGood (.leaf b p) := by
  intro sl fp w d hIn
  obtain ⟨a, c, hsl⟩ := hIn.sl
  change sl = .slice a 0 c at hsl
  subst hsl
  have HE : Hid (∀ X, Calls Try.prog 57 #[.agg #[.int .i64 1, .int .i64 b.w, .int .i64 b.h, .int .i64 p, .slice a 0 c], .int .i64 d] X fun e w' => e = .returned (.int .i64 (b.ext d)) ∧ Below X.heap.size X w') := fun X => ref_extent (.mk 1 b.w b.h p []) a 0 c d X
  have HB : Hid (∀ o, Below w.heap.size w (w.alloc o)) := fun o => (Below.refl _ _).alloc (Nat.le_refl _) o
  have hb := room_bound (.leaf b p) d hs
  change 0 ≤ b.ext d - 1 ∧ b.ext d - 1 ≤ 1000 * ((1 : Nat) : Int) at hb
  show Calls Try.prog 61 #[.agg #[.int .i64 1, .int .i64 b.w, .int .i64 b.h, .int .i64 p, .slice a 0 c], .int .i64 d] w fun e w' => e = .returned (.int .i64 (b.ext d - 1)) ∧ Below w.heap.size w w'
  obtain ⟨x, hx⟩ : ∃ x, b.ext d = x := ⟨_, rfl⟩
  rw [hx] at HE hb ⊢
  have hw : IntKind.i64.wrap (x - 1) = x - 1 := by rw [IntKind.wrap_i64]; omega
  clear hs hx hb hIn
  go_enter Try.func61, Try.ntmps61
  go_wp2_with fail
  refine (HE.out _).mono ?_
  rintro e w1 ⟨rfl, hb1⟩
  have HB1 : Hid (Below w.heap.size w w1) := below_step (HB.out _) hb1
  clear hb1
  go_wp2
  go_ret
  exact ⟨rfl, HB1.out⟩

set_option maxHeartbeats 2000000 in
theorem room_splitN (b : Box) (k : Int) (ts : List Tree) (hk : k = 2 ∨ k = 3) (hs : soundAll ts b k = true) (hz : sizes ts ≤ 1000) (IH : ∀ t ∈ ts, RoomGood t) : RoomGood (.split b k ts) := by
  intro sl fp w d hIn
  obtain ⟨ad, cap, hsl⟩ := hIn.sl
  change (Node.mk k b.w b.h 0 (nodesOf ts)).In w sl fp at hIn
  change sl = .slice ad (nodesOf ts).length cap at hsl
  rw [nodesOf_length] at hsl
  obtain ⟨m, hm⟩ : ∃ m, ts.length = m := ⟨_, rfl⟩
  have hm3 : m ≤ 1000 := by have := length_sizes ts; omega
  obtain ⟨W, hW⟩ : ∃ W, w.alloc (.cells #[.int .i64 k, .int .i64 b.w, .int .i64 b.h, .int .i64 0, sl] 67) = W := ⟨_, rfl⟩
  have HblkW : W.heap[w.heap.size]? = some (.cells #[.int .i64 k, .int .i64 b.w, .int .i64 b.h, .int .i64 0, sl] 67 (0, 0)) := by rw [← hW]; exact heap_alloc_new _ _
  have HbW : Below w.heap.size w W := by rw [← hW]; exact (Below.refl _ _).alloc (Nat.le_refl _) _
  have HBlk : Hid (∀ X, Below W.heap.size W X → X.heap[w.heap.size]? = some (.cells #[.int .i64 k, .int .i64 b.w, .int .i64 b.h, .int .i64 0, sl] 67 (0, 0))) := fun X hX => (hX.block _ (lt_of_block HblkW)).trans HblkW
  have HB : Hid (∀ X, Below W.heap.size W X → Below w.heap.size w X) := fun X hX => below_step HbW hX
  have HI : Hid ((Node.mk k b.w b.h 0 (nodesOf ts)).In W sl fp) := hIn.below HbW
  have HIH : Hid (∀ t ∈ ts, RoomGood t) := IH
  have HM : Hid (ts.length = m) := hm
  have HSo : Hid (soundAll ts b k = true) := hs
  have HZ : Hid (sizes ts ≤ 1000) := hz
  have HW : Hid (w.alloc (.cells #[.int .i64 k, .int .i64 b.w, .int .i64 b.h, .int .i64 0, sl] 67) = W) := hW
  have kk : (k == 1) = false := by
    have : k ≠ 1 := by omega
    simpa using this
  rw [hm] at hsl
  subst hsl
  show Calls Try.prog 61 #[.agg #[.int .i64 k, .int .i64 b.w, .int .i64 b.h, .int .i64 0, .slice ad m cap], .int .i64 d] w fun e w' => e = .returned (.int .i64 (if d = k then roomAll ts d else roomLeast ts d)) ∧ Below w.heap.size w w'
  obtain ⟨Z, hZZ⟩ : ∃ z, (if d = k then roomAll ts d else roomLeast ts d) = z := ⟨_, rfl⟩
  have HZZ : Hid ((if d = k then roomAll ts d else roomLeast ts d) = Z) := hZZ
  rw [hZZ]
  clear hIn IH hm hs hz HblkW HbW hW hk hZZ
  go_enter Try.func61, Try.ntmps61
  go_wp2
  rw [HW.out]
  go_loopw [5, 6, 7] (fun va vl v wr => ∃ i : Nat, i ≤ m ∧ va = .int .i64 (roomAll (ts.take i) d) ∧ vl = .int .i64 (roomLeast (ts.take i) d) ∧ v = .int .i64 i ∧ Hid (Below W.heap.size W wr)) (fun _ _ v _ => m - (intOf v).toNat)
  case atStart => exact ⟨0, Nat.zero_le _, rfl, rfl, rfl, Below.refl _ _⟩
  case round =>
    obtain ⟨i, hi, rfl, rfl, rfl, HBr⟩ := hrel
    have hbk := HBlk.out wr HBr.out
    have b0 : wr.cell? ⟨w.heap.size, 0, none⟩ = some (.int .i64 k) := cell_atL hbk 0
    have b4 : wr.cell? ⟨w.heap.size, 4, none⟩ = some (.slice ad m cap) := cell_atL hbk 4
    clear hbk
    by_cases hlt : i < m
    · obtain ⟨t, ht⟩ : ∃ t, ts[i]? = some t := ⟨_, List.getElem?_eq_getElem (by rw [HM.out]; exact hlt)⟩
      obtain ⟨g, cap', e1, e2, e3⟩ := (HI.out.below HBr.out).kids (by intro e; have h := nodesOf_length ts; rw [e, HM.out] at h; simp at h; omega)
      rw [nodesOf_length, HM.out] at e1
      cases e1
      obtain ⟨sl', f', e4, q0, q1, q2, q3, q4⟩ := e3 i (nodeOf t) (nodesOf_get ts i t ht)
      obtain ⟨ad', c', hsl'⟩ := e4.sl
      have HCa : Hid (Calls Try.prog 61 #[.agg (nodeV (nodeOf t) sl'), .int .i64 d] wr fun e w' => e = .returned (.int .i64 (t.room d)) ∧ Below wr.heap.size wr w') := HIH.out t (List.mem_of_getElem? ht) sl' f' wr d e4
      subst hsl'
      have h1 := roomAll_take ts d i t ht
      have h2 := roomLeast_take ts d i t ht
      have h3 := (rooms_bound (ts.take i) b k d (soundAll_taken ts b k HSo.out i)).1
      have h4 := (rooms_bound (ts.take (i + 1)) b k d (soundAll_taken ts b k HSo.out (i + 1))).1
      have h5 := sizes_taken ts i
      have h6 := sizes_taken ts (i + 1)
      have h7 := HZ.out
      obtain ⟨A, hA⟩ : ∃ x, roomAll (ts.take i) d = x := ⟨_, rfl⟩
      obtain ⟨B, hB⟩ : ∃ x, roomLeast (ts.take i) d = x := ⟨_, rfl⟩
      obtain ⟨R, hRr⟩ : ∃ x, t.room d = x := ⟨_, rfl⟩
      rw [hA, hRr] at h1
      rw [hB, hRr] at h2
      rw [h1] at h4
      rw [hA] at h3
      rw [hRr] at HCa
      rw [hA, hB]
      have hw : IntKind.i64.wrap (A + R) = A + R := by rw [IntKind.wrap_i64]; omega
      have H1 : Hid (roomAll (ts.take (i + 1)) d = A + R) := h1
      have H2 : Hid (roomLeast (ts.take (i + 1)) d = min B R) := h2
      obtain ⟨nn, hnn⟩ : ∃ x, nodeOf t = x := ⟨_, rfl⟩
      rw [hnn] at HCa q0 q1 q2 q3 q4
      unfold nodeV at HCa
      clear e2 e3 e4 ht h1 h2 h3 h4 h5 h6 h7 hA hB hRr hnn
      go_wp2_with fail
      refine HCa.out.mono ?_
      rintro e w1 ⟨rfl, hb1⟩
      have HB1 : Hid (Below W.heap.size W w1) := below_step HBr.out hb1
      clear hb1 HCa
      go_wp2
      go_roundw
      case rel => exact ⟨i + 1, by omega, by rw [H1.out], by rw [H2.out], by go_num, HB1⟩
      case measure => simp [intOf]; omega
    · have hin : i = m := by omega
      subst hin
      rw [List.take_of_length_le (by rw [HM.out]; exact Nat.le_refl _)]
      obtain ⟨A, hA⟩ : ∃ x, roomAll ts d = x := ⟨_, rfl⟩
      obtain ⟨B, hB⟩ : ∃ x, roomLeast ts d = x := ⟨_, rfl⟩
      rw [hA, hB]
      have HAe : Hid (d = k → A = Z) := fun e => by rw [← HZZ.out, if_pos e, hA]
      have HBe : Hid (¬ d = k → B = Z) := fun e => by rw [← HZZ.out, if_neg e, hB]
      clear hA hB
      by_cases hdk : d = k
      · have hdk' : (k == d) = true := by simp [hdk]
        have HD : Hid (A = Z) := HAe.out hdk
        clear hdk HAe HBe
        go_wp2
        go_ret
        exact ⟨by rw [← HD.out]; rfl, HB.out _ HBr.out⟩
      · have hdk' : (k == d) = false := by simp; omega
        have HD : Hid (B = Z) := HBe.out hdk
        clear hdk HAe HBe
        go_wp2
        go_ret
        exact ⟨by rw [← HD.out]; rfl, HB.out _ HBr.out⟩
mutual
theorem room_good : ∀ (t : Tree), t.kinds → t.sound = true → t.size ≤ 1000 → RoomGood t
  | .leaf b p, hk, hs, hz => room_leafN b p hs
  | .split b k ts, hk, hs, hz => by
    unfold Tree.sound at hs
    simp only [Bool.and_eq_true, decide_eq_true_eq] at hs
    unfold Tree.size at hz
    exact room_splitN b k ts hk.1 hs.2.1 (by omega) (room_goods ts b k hk.2 hs.2.1 (by omega))
theorem room_goods : ∀ (ts : List Tree) (b : Box) (k : Int), kindsAll ts → soundAll ts b k = true → sizes ts ≤ 1000 → ∀ t ∈ ts, RoomGood t
  | [], b, k, hk, hs, hz => fun t ht => by cases ht
  | a :: ts, b, k, hk, hs, hz => fun t ht => by
    unfold soundAll at hs
    simp only [Bool.and_eq_true] at hs
    unfold sizes at hz
    rcases List.mem_cons.1 ht with e | ht
    · exact e ▸ room_good a hk.1 hs.1.1 (by omega)
    · exact room_goods ts b k hk.2 hs.2 (by omega) t ht
end

/-- The least extents. -/
def leastT (t : Tree) (d : Int) : Int := t.box.ext d - t.room d
theorem lay_size {l : List CellV} {t : Tree} (h : IsLay l t) : t.size ≤ 63 := by
  have h3 := Tree.tell_length t 0
  rw [h.tell] at h3
  have := h.size
  omega
theorem leaf_or_split {W : World} {B : Nat} {t : Tree} {T : TypeId} {g : Nat} {fp : List Nat} (h : t.At W B (.iface T (.pointer (some ⟨g, 0, none⟩))) fp) : ∀ d X, Below W.heap.size W X → (method 270 T (.pointer (some ⟨g, 0, none⟩)) "mullion/layout.extent").run Try.prog X = .ok (48, .pointer (some ⟨g, 0, none⟩)) X ∧ Calls Try.prog 48 #[.pointer (some ⟨g, 0, none⟩), .int .i64 d] X fun e w' => e = .returned (.int .i64 (t.box.ext d)) ∧ X = w' := by
  obtain ⟨g', hv, hb, _⟩ := h.own
  intro d X hX
  rcases hv with hv | hv
  · cases hv
    exact ⟨l_extent _ X, box_extent _ t.box d X (hb.below hX)⟩
  · cases hv
    exact ⟨s_extent _ X, box_extent _ t.box d X (hb.below hX)⟩
theorem least_any (t : Tree) (T : TypeId) (g : Nat) (fp : List Nat) (d : Int) (w : World) (h : t.At w 0 (.iface T (.pointer (some ⟨g, 0, none⟩))) fp) (hs : t.sound = true) (hz : t.size ≤ 63) : Calls Try.prog 60 #[.iface T (.pointer (some ⟨g, 0, none⟩)), .int .i64 d] w fun e w' => e = .returned (.int .i64 (leastT t d)) ∧ w = w' := by
  obtain ⟨T', gi, Fr, hp⟩ := h.partR hs (by omega)
  have e := hp.val
  cases e
  have m1 : ∀ W, (method 270 T (.pointer (some ⟨g, 0, none⟩)) "mullion/layout.extent").run Try.prog W = .ok (48, .pointer (some ⟨g, 0, none⟩)) W := by
    obtain ⟨g', hv, _, _⟩ := h.own
    rcases hv with hv | hv
    · cases hv; exact l_extent _
    · cases hv; exact s_extent _
  have HE : Hid (Calls Try.prog 48 #[.pointer (some ⟨g, 0, none⟩), .int .i64 d] w fun e w' => e = .returned (.int .i64 (t.box.ext d)) ∧ w = w') := (leaf_or_split h d w (Below.refl _ _)).2
  have HR : Hid (Calls Try.prog Fr #[.pointer (some ⟨g, 0, none⟩), .int .i64 d] w fun e w' => e = .returned (.int .i64 (t.room d)) ∧ w = w') := hp.cR d w (Below.refl _ _)
  have m2 := hp.mR
  have m3 := hp.fR
  have hb := room_bound t d hs
  have hsd := t.sound_sides hs
  have hx : 1 ≤ t.box.ext d ∧ t.box.ext d ≤ 1000 := by unfold Box.ext; split <;> omega
  unfold leastT
  obtain ⟨X, hX⟩ : ∃ x, t.box.ext d = x := ⟨_, rfl⟩
  obtain ⟨R, hRr⟩ : ∃ x, t.room d = x := ⟨_, rfl⟩
  rw [hX] at HE hx ⊢
  rw [hRr] at HR hb ⊢
  have hw : IntKind.i64.wrap (X - R) = X - R := by rw [IntKind.wrap_i64]; omega
  clear hp h hs hz hb hsd hx hX hRr
  go_enter Try.func60, Try.ntmps60
  go_wp2_with fail
  refine HE.out.mono ?_
  rintro e w1 ⟨rfl, rfl⟩
  go_wp2_with fail
  refine HR.out.mono ?_
  rintro e w1 ⟨rfl, rfl⟩
  go_wp2
  go_ret
  exact ⟨rfl, rfl⟩

/-- What Least answers. -/
def leastA (l : List CellV) (d : Int) : Int := match readF l with
  | none => 0
  | some t => leastT t d
theorem least_prog (v : Value) (l : List CellV) (w : World) (h : CellsIn w v l) : Calls Try.prog 25 #[v] w fun e w' => e = .returned (.tuple #[.int .i64 (leastA l 2), .int .i64 (leastA l 3), .int .i64 (checkE l)]) ∧ Below w.heap.size w w' := by
  have HR : Hid (Calls Try.prog 45 #[v] w (ReadGood l w)) := read_any v l w h
  clear h
  go_enter Try.func25, Try.ntmps25
  go_wp2_with fail
  refine HR.out.mono ?_
  rintro e w1 (⟨hF, rfl, hb⟩ | ⟨t, T, g, fp, hF, rfl, hAt, hnd, hge, hb⟩)
  · have HE : Hid (leastA l 2 = 0 ∧ leastA l 3 = 0 ∧ checkE l = 40) := by
      unfold leastA checkE
      rw [hF]
      exact ⟨rfl, rfl, rfl⟩
    unfold nilPart
    clear hF
    go_wp2
    exact bodyPost_ret (v := .tuple #[.int .i64 0, .int .i64 0, .int .i64 40]) (by simp [results, Try.results25, go_sem]) rfl ⟨by rw [HE.out.1, HE.out.2.1, HE.out.2.2], hb⟩
  · have hlay := readF_lay hF
    have HE : Hid (leastA l 2 = leastT t 2 ∧ leastA l 3 = leastT t 3 ∧ checkE l = 0) := by
      unfold leastA checkE
      rw [hF]
      exact ⟨rfl, rfl, rfl⟩
    have H2 : Hid (Calls Try.prog 60 #[.iface T (.pointer (some ⟨g, 0, none⟩)), .int .i64 2] w1 fun e w' => e = .returned (.int .i64 (leastT t 2)) ∧ w1 = w') := least_any t T g fp 2 w1 hAt hlay.sound (lay_size hlay)
    have H3 : Hid (Calls Try.prog 60 #[.iface T (.pointer (some ⟨g, 0, none⟩)), .int .i64 3] w1 fun e w' => e = .returned (.int .i64 (leastT t 3)) ∧ w1 = w') := least_any t T g fp 3 w1 hAt hlay.sound (lay_size hlay)
    obtain ⟨A, hA⟩ : ∃ x, leastT t 2 = x := ⟨_, rfl⟩
    obtain ⟨B, hB⟩ : ∃ x, leastT t 3 = x := ⟨_, rfl⟩
    rw [hA] at H2 HE
    rw [hB] at H3 HE
    clear hF hAt hnd hge hlay hA hB
    go_wp2_with fail
    refine H2.out.mono ?_
    rintro e w2 ⟨rfl, rfl⟩
    go_wp2_with fail
    refine H3.out.mono ?_
    rintro e w2 ⟨rfl, rfl⟩
    go_wp2
    exact bodyPost_ret (v := .tuple #[.int .i64 A, .int .i64 B, .int .i64 0]) (by simp [results, Try.results25, go_sem]) rfl ⟨by rw [HE.out.1, HE.out.2.1, HE.out.2.2], hb⟩

set_option maxHeartbeats 2000000 in
theorem least_ref (v : Value) (l : List CellV) (w : World) (h : CellsIn w v l) : Calls Try.prog 26 #[v] w fun e w' => e = .returned (.tuple #[.int .i64 (leastA l 2), .int .i64 (leastA l 3), .int .i64 (checkE l)]) ∧ Below w.heap.size w w' := by
  have HT : Hid (Calls Try.prog 37 #[v] w (TreeGood l w)) := tree_any v l w h
  clear h
  go_enter Try.func26, Try.ntmps26
  go_wp2_with fail
  refine HT.out.mono ?_
  rintro x w1 ⟨hb, ⟨hr, rfl⟩ | ⟨t, sa, sn, sc, fp, hr, rfl, hIn⟩⟩
  · have HE : Hid (leastA l 2 = 0 ∧ leastA l 3 = 0 ∧ checkE l = 40) := by
      unfold leastA checkE
      rw [hr]
      exact ⟨rfl, rfl, rfl⟩
    have HB : Hid (∀ o, Below w.heap.size w (w1.alloc o)) := fun o => below_step hb ((Below.refl _ _).alloc (Nat.le_refl _) o)
    unfold zeroN
    clear hr hb
    go_wp2
    exact bodyPost_ret (v := .tuple #[.int .i64 0, .int .i64 0, .int .i64 40]) (by simp [results, Try.results26, go_sem]) rfl ⟨by rw [HE.out.1, HE.out.2.1, HE.out.2.2], HB.out _⟩
  · have hlay := readF_lay hr
    have HE : Hid (leastA l 2 = leastT t 2 ∧ leastA l 3 = leastT t 3 ∧ checkE l = 0) := by
      unfold leastA checkE
      rw [hr]
      exact ⟨rfl, rfl, rfl⟩
    obtain ⟨W, hW⟩ : ∃ W, w1.alloc (.cells #[.int .i64 (nodeOf t).k, .int .i64 (nodeOf t).w, .int .i64 (nodeOf t).h, .int .i64 (nodeOf t).i, .slice sa sn sc] 67) = W := ⟨_, rfl⟩
    have hbW : Below w1.heap.size w1 W := by rw [← hW]; exact (Below.refl _ _).alloc (Nat.le_refl _) _
    have HBW : Hid (Below w.heap.size w W) := below_step hb hbW
    have hM : W.heap[w1.heap.size]? = some (.cells #[.int .i64 (nodeOf t).k, .int .i64 (nodeOf t).w, .int .i64 (nodeOf t).h, .int .i64 (nodeOf t).i, .slice sa sn sc] 67 (0, 0)) := by rw [← hW]; exact heap_alloc_new _ _
    have HX : Hid (∀ X, Below W.heap.size W X → X.heap[w1.heap.size]? = some (.cells #[.int .i64 (nodeOf t).k, .int .i64 (nodeOf t).w, .int .i64 (nodeOf t).h, .int .i64 (nodeOf t).i, .slice sa sn sc] 67 (0, 0))) := fun X hX => (hX.block _ (lt_of_block hM)).trans hM
    have HR : Hid (∀ X d, Below W.heap.size W X → Calls Try.prog 61 #[.agg #[.int .i64 (nodeOf t).k, .int .i64 (nodeOf t).w, .int .i64 (nodeOf t).h, .int .i64 (nodeOf t).i, .slice sa sn sc], .int .i64 d] X fun e w' => e = .returned (.int .i64 (t.room d)) ∧ Below W.heap.size W w') := fun X d hX => (room_good t hlay.kinds hlay.sound (by have := lay_size hlay; omega) _ fp X d ((hIn.below hbW).below hX)).mono fun e w' h2 => ⟨h2.1, below_step hX h2.2⟩
    have hb2 := room_bound t 2 hlay.sound
    have hb3 := room_bound t 3 hlay.sound
    have hsd := t.sound_sides hlay.sound
    have hsz := lay_size hlay
    have HW : Hid (w1.alloc (.cells #[.int .i64 (nodeOf t).k, .int .i64 (nodeOf t).w, .int .i64 (nodeOf t).h, .int .i64 (nodeOf t).i, .slice sa sn sc] 67) = W) := hW
    have HL : Hid (leastT t 2 = (nodeOf t).w - t.room 2 ∧ leastT t 3 = (nodeOf t).h - t.room 3) := by rw [nodeOf_w, nodeOf_h]; exact ⟨rfl, rfl⟩
    rw [← nodeOf_w, ← nodeOf_h] at hsd
    obtain ⟨nn, hnn⟩ : ∃ x, nodeOf t = x := ⟨_, rfl⟩
    rw [hnn] at HX HR HW HL hsd ⊢
    obtain ⟨A, hA⟩ : ∃ x, t.room 2 = x := ⟨_, rfl⟩
    obtain ⟨B, hB⟩ : ∃ x, t.room 3 = x := ⟨_, rfl⟩
    have HR2 : Hid (∀ X, Below W.heap.size W X → Calls Try.prog 61 #[.agg #[.int .i64 nn.k, .int .i64 nn.w, .int .i64 nn.h, .int .i64 nn.i, .slice sa sn sc], .int .i64 2] X fun e w' => e = .returned (.int .i64 A) ∧ Below W.heap.size W w') := fun X hX => hA ▸ HR.out X 2 hX
    have HR3 : Hid (∀ X, Below W.heap.size W X → Calls Try.prog 61 #[.agg #[.int .i64 nn.k, .int .i64 nn.w, .int .i64 nn.h, .int .i64 nn.i, .slice sa sn sc], .int .i64 3] X fun e w' => e = .returned (.int .i64 B) ∧ Below W.heap.size W w') := fun X hX => hB ▸ HR.out X 3 hX
    rw [hA] at hb2 HL
    rw [hB] at hb3 HL
    have v1 : IntKind.i64.wrap (nn.w - A) = nn.w - A := by rw [IntKind.wrap_i64]; omega
    have v2 : IntKind.i64.wrap (nn.h - B) = nn.h - B := by rw [IntKind.wrap_i64]; omega
    unfold nodeV
    clear hr hb hIn hlay hbW hM hb2 hb3 hsd hsz hW hnn hA hB HR
    go_wp2_with fail
    rw [HW.out]
    refine wp_region_qw (fun X => Below W.heap.size W X) (by kernel_rfl) (by kernel_rfl) (Below.refl _ _).drew ?_
    repeat (
      refine qw_take (v := ?_) (by rfl) (fun X hX => ?_) ?_
      rotate_left
      · have hm := HX.out X hX
        have m0 : X.cell? ⟨w1.heap.size, 0, none⟩ = some (.int .i64 nn.k) := cell_atL hm 0
        have m1 : X.cell? ⟨w1.heap.size, 1, none⟩ = some (.int .i64 nn.w) := cell_atL hm 1
        have m2 : X.cell? ⟨w1.heap.size, 2, none⟩ = some (.int .i64 nn.h) := cell_atL hm 2
        have m3 : X.cell? ⟨w1.heap.size, 3, none⟩ = some (.int .i64 nn.i) := cell_atL hm 3
        have m4 : X.cell? ⟨w1.heap.size, 4, none⟩ = some (.slice sa sn sc) := cell_atL hm 4
        clear hm
        go_simp
        all_goals first | with_reducible rfl | with_reducible exact HR2.out X hX | with_reducible exact HR3.out X hX
      intro K hK
      go_simp
      refine hK.out _ ?_
      clear hK K)
    refine qw_nil ?_
    intro w4 hB4
    have HB4 : Hid (Below w.heap.size w w4) := below_step HBW.out hB4
    clear hB4
    go_wp2
    exact bodyPost_ret (v := .tuple #[.int .i64 (nn.w - A), .int .i64 (nn.h - B), .int .i64 0]) (by simp [results, Try.results26, go_sem]) rfl ⟨by rw [HE.out.1, HE.out.2.1, HE.out.2.2, HL.out.1, HL.out.2], HB4.out⟩

end Go.Proofs.Ytammadcigfbgeaa
