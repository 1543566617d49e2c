/-
  The walk of WirePieces.
-/
import Derived.Test.YtcgpgnifaeikeaaGreatDoorWSame
import Derived.WalkKit
import Derived.LoopTactic
import Derived.OwnWalk
import Derived.Laws.AppendOwnNone
namespace Go.Proofs.YtcgpgnifaeikeaaGreatDoor
open Go.RowKit
set_option linter.unusedVariables false

theorem same_short (v v' : Value) (hv : v = .slice none 0 0 ∨ ∃ g cap, v = .slice (some ⟨g, 0, none⟩) 0 cap) (hv' : v' = .slice none 0 0 ∨ ∃ g cap, v' = .slice (some ⟨g, 0, none⟩) 0 cap) (w : World) :
    Calls Tryz.prog 10 #[v, v'] w fun e w' => e = .returned (.bool true) ∧ Below w.heap.size w w' := by
  rcases hv with rfl | ⟨g, cap, rfl⟩ <;> rcases hv' with rfl | ⟨g', cap', rfl⟩
  all_goals
    go_enter Tryz.func10, Tryz.ntmps10
    go_wp2
    go_loopw [5] (fun v wr => v = .int .i64 0 ∧ w = wr) (fun _ _ => 0)
    case atStart => exact ⟨rfl, rfl⟩
    case round =>
      obtain ⟨rfl, rfl⟩ := hrel
      go_wp2
      go_ret
      exact ⟨rfl, Below.refl _ _⟩

theorem same_any (l : List Ev) (hm : l.length ≤ 16777216) (B B' : Nat) (v v' : Value) (w : World) (h1 : EvOwns w B v l) (h2 : EvOwns w B' v' l) :
    Calls Tryz.prog 10 #[v, v'] w fun e w' => e = .returned (.bool true) ∧ Below w.heap.size w w' := by
  by_cases hl : l.length = 0
  · refine same_short v v' ?_ ?_ w
    · rcases h1.shape with ⟨h, _⟩ | ⟨g, cap, h, _⟩
      · exact .inl h
      · exact .inr ⟨g, cap, by rw [h, hl]⟩
    · rcases h2.shape with ⟨h, _⟩ | ⟨g, cap, h, _⟩
      · exact .inl h
      · exact .inr ⟨g, cap, by rw [h, hl]⟩
  · rcases h1.shape with ⟨_, h⟩ | ⟨g, cap, h, _⟩
    · rw [h] at hl; exact absurd rfl hl
    · rcases h2.shape with ⟨_, h'⟩ | ⟨g', cap', h', _⟩
      · rw [h'] at hl; exact absurd rfl hl
      · subst h h'
        exact same_yes l B B' g cap g' cap' (by omega) hm w h1 h2

theorem linesS_rest : ∀ (n : Nat) (l : List UInt8), l.length ≤ n → (linesS l).2.length ≤ l.length
  | n, l, h => by
    by_cases hm : (10 : UInt8) ∈ l
    · have hl := rest10 l hm
      rw [linesS_yes hm]
      cases n with
      | zero => omega
      | succ n =>
        have := linesS_rest n ((l.dropWhile (· != 10)).drop 1) (by omega)
        show (linesS _).2.length ≤ _
        omega
    · rw [linesS_no hm]; exact Nat.le_refl _

theorem evCells_append (a b : List Ev) : evCells (a ++ b) = evCells a ++ evCells b := by unfold evCells; simp
theorem evCells_one (l : List Ev) : ∀ u ∈ evCells l, u.oneCell' = true := by
  intro u hu
  unfold evCells at hu
  obtain ⟨e, _, hu⟩ := List.mem_flatMap.1 hu
  have hu' : u ∈ [Value.int .i64 e.kind, .int .i64 e.session, .int .i64 e.window, .int .i64 e.pane, .int .i64 e.index, .int .i64 e.offset, .int .i64 e.tick, .int .i64 e.number, .int .i64 e.flag, .string e.name, .string e.text, .string e.layout, .string e.visible, .bool e.zoom] := hu
  simp only [List.mem_cons, List.not_mem_nil, or_false] at hu'
  rcases hu' with rfl | rfl | rfl | rfl | rfl | rfl | rfl | rfl | rfl | rfl | rfl | rfl | rfl | rfl <;> rfl

/-- A whole list of events appended to what is owned. -/
theorem wpList_append_evs {ops : Array Oper} {rest : List Oper} {o : Oper} {a : Act} {Q : Exit → Act → World → Prop} (w : World) (hgd : o.guard = none) (s x : Operand)
    (ho : o.op = .call { callee := .builtin .append, args := #[s, x], argTypes := #[22, 22] })
    (B : Nat) (v : Value) (l : List Ev) (hs : a.eval s = v) (hown : EvOwns w B v l) (B' g n cap : Nat) (l' : List Ev) (hn : n = l'.length) (hx : a.eval x = .slice (some ⟨g, 0, none⟩) n cap) (hown' : EvOwns w B' (.slice (some ⟨g, 0, none⟩) n cap) l')
    (hlen : l.length + l'.length ≤ 16777216) (hB : B ≤ w.heap.size)
    (h : ∀ v' w', EvOwns w' B v' (l ++ l') → w.grownBy w' v.ownBlock → wpList Tryz.prog ops Q rest (a.put o.dst v') w') : wpList Tryz.prog ops Q (o :: rest) a w := by
  subst hn
  obtain ⟨i0, hi, hz0, hz1, hz2⟩ := info_parts infoEv
  refine wpList_append_own _ hgd s x 22 ho B 28 i0 (.agg (Ev.zero 0).vals) 14 144 Tryz.underlying22 hi hz0 hz1 hz2 rfl (by decide) v l.length (evCells l) hs hown ⟨g, 0, none⟩ l'.length cap (evCells l') hx (evCells_length l') (World.ownsRow.cells hown' rfl) (evCells_one l') ?_ ?_ hB ?_
  · unfold maxLen; omega
  · omega
  · intro v' w' h2 h3 _
    refine h v' w' ?_ h3
    unfold EvOwns
    rw [evCells_append, List.length_append]
    exact h2

/-- The same, of a list that may be nil. -/
theorem wpList_append_two {ops : Array Oper} {rest : List Oper} {o : Oper} {a : Act} {Q : Exit → Act → World → Prop} (w : World) (hgd : o.guard = none) (s x : Operand)
    (ho : o.op = .call { callee := .builtin .append, args := #[s, x], argTypes := #[22, 22] })
    (B : Nat) (v : Value) (l : List Ev) (hs : a.eval s = v) (hown : EvOwns w B v l) (B' : Nat) (u : Value) (l' : List Ev) (hx : a.eval x = u) (hown' : EvOwns w B' u l')
    (hlen : l.length + l'.length ≤ 16777216) (hB : B ≤ w.heap.size)
    (h : ∀ v' w', EvOwns w' B v' (l ++ l') → w.grownBy w' v.ownBlock → wpList Tryz.prog ops Q rest (a.put o.dst v') w') : wpList Tryz.prog ops Q (o :: rest) a w := by
  rcases hown'.shape with ⟨rfl, rfl⟩ | ⟨g, cap, rfl, _⟩
  · obtain ⟨i0, hi, hz0, hz1, hz2⟩ := info_parts infoEv
    refine wpList_append_own_none hgd s x 22 ho B 28 i0 14 Tryz.underlying22 hi v l.length (evCells l) hs hown hx ?_
    exact h v w (by rw [List.append_nil]; exact hown) ⟨rfl, rfl, rfl, Nat.le_refl _, fun _ _ _ => rfl⟩
  · exact wpList_append_evs w hgd s x ho B v l hs hown B' g _ cap l' rfl hx hown' hlen hB h

theorem EvOwns.grown {w w' : World} {B : Nat} {v : Value} {l : List Ev} {r : Option Nat} (h : EvOwns w B v l) (hg : w.grownBy w' r) (hr : ∀ k, v.ownBlock = some k → r ≠ some k) : EvOwns w' B v l :=
  World.ownsRow.kept h hg (by
    cases hv : v.ownBlock with
    | none => exact .inl rfl
    | some k => exact .inr (fun e => hr k hv e.symm))
theorem EvOwns.base {w : World} {B : Nat} {v : Value} {l : List Ev} (h : EvOwns w B v l) : ∀ k, v.ownBlock = some k → B ≤ k ∧ k < w.heap.size := fun k hk => World.ownsRow.lt h k hk

set_option maxRecDepth 20000 in
set_option maxHeartbeats 2000000 in
theorem pieces_in (s : ByteArray) (hs : s.size ≤ 1048576) (n : Nat) (hn : n ≤ s.size) (w : World) (hE : Env w) :
    Calls Tryz.prog 7 #[.string s, .int .i64 n] w fun e w' => e = .returned (.bool true) ∧ Below w.heap.size w w' := by
  have HE : Hid (∀ W, Below w.heap.size w W → Env W) := fun W h => hE.below h
  have e1 : (s.extract 0 n).data.toList = s.data.toList.take n := Lib.extract_from_zero s n
  have e2 : (s.extract n s.size).data.toList = s.data.toList.drop n := Lib.extract_to_end s n
  have hap := linesS_append (s.data.toList.take n).length (s.data.toList.take n) (s.data.toList.drop n) (Nat.le_refl _)
  have hr2 := linesS_rest _ (s.data.toList.take n) (Nat.le_refl _)
  rw [List.take_append_drop] at hap
  obtain ⟨L1, hL1⟩ : ∃ x, linesS s.data.toList = x := ⟨_, rfl⟩
  obtain ⟨L2, hL2⟩ : ∃ x, linesS (s.data.toList.take n) = x := ⟨_, rfl⟩
  rw [hL1, hL2] at hap
  rw [hL2, List.length_take, size_data] at hr2
  obtain ⟨L3, hL3⟩ : ∃ x, linesS (L2.2 ++ s.data.toList.drop n) = x := ⟨_, rfl⟩
  rw [hL3] at hap
  have HAp : Hid (L1.1.map decS = ([] ++ L2.1.map decS) ++ L3.1.map decS) := by rw [hap, List.map_append]; rfl
  have h12 : L1.2 = L3.2 := by rw [hap]
  have hc1 := linesS_count _ s.data.toList (Nat.le_refl _)
  rw [hL1, size_data] at hc1
  have hc2 : L1.1.length = L2.1.length + L3.1.length := by rw [hap, List.length_append]
  clear hap
  have hsz2 : L2.2.length ≤ s.size := by omega
  have HV1 : Hid (∀ W, Env W → Calls Tryz.prog 15 #[.string s] W fun e w' => ∃ v, e = .returned (.tuple #[v, .string (str L3.2)]) ∧ EvOwns w' W.heap.size v (L1.1.map decS) ∧ Below W.heap.size W w') := fun W hW => by
    have := events_any s (by omega) W hW
    rw [hL1, h12] at this
    exact this
  have HV2 : Hid (∀ W, Env W → Calls Tryz.prog 15 #[.string (s.extract 0 n)] W fun e w' => ∃ v, e = .returned (.tuple #[v, .string (str L2.2)]) ∧ EvOwns w' W.heap.size v (L2.1.map decS) ∧ Below W.heap.size W w') := fun W hW => by
    have := events_any (s.extract 0 n) (by rw [← size_data, e1, List.length_take, size_data]; omega) W hW
    rw [e1, hL2] at this
    exact this
  have HV3 : Hid (∀ W, Env W → Calls Tryz.prog 15 #[.string (str L2.2 ++ s.extract n s.size)] W fun e w' => ∃ v, e = .returned (.tuple #[v, .string (str L3.2)]) ∧ EvOwns w' W.heap.size v (L3.1.map decS) ∧ Below W.heap.size W w') := fun W hW => by
    have e3 : (str L2.2 ++ s.extract n s.size).data.toList = L2.2 ++ s.data.toList.drop n := by
      rw [ByteArray.data_append, Array.toList_append, e2]; rfl
    have := events_any (str L2.2 ++ s.extract n s.size) (by rw [← size_data, e3, List.length_append, List.length_drop, size_data]; omega) W hW
    rw [e3, hL3] at this
    exact this
  clear hE e1 e2 hL1 hL2 hL3 h12
  go_enter Tryz.func7, Tryz.ntmps7
  go_wp2_with fail
  refine (HV1.out _ (HE.out _ (Below.refl _ _))).mono ?_
  rintro e w1 ⟨v1, rfl, ho1, hb1⟩
  have HB1 : Hid (Below w.heap.size w w1) := hb1
  have HO1 : Hid (EvOwns w1 w.heap.size v1 (L1.1.map decS)) := ho1
  clear hb1 ho1 HV1
  go_wp2_with fail
  refine (HV2.out _ (HE.out _ HB1.out)).mono ?_
  rintro e w2 ⟨v2, rfl, ho2, hb2⟩
  have HB2 : Hid (Below w.heap.size w w2) := below_step HB1.out hb2
  have HO1' : Hid (EvOwns w2 w.heap.size v1 (L1.1.map decS)) := HO1.out.below hb2
  have HO2 : Hid (EvOwns w2 w1.heap.size v2 (L2.1.map decS)) := ho2
  clear hb2 ho2 HV2 HO1
  have z2 : (str L2.2).size ≤ 1048576 := by rw [str_size]; omega
  have z3 : (s.extract n s.size).size ≤ 1048576 := by rw [ByteArray.size_extract]; omega
  go_wp2_with fail
  refine (HV3.out _ (HE.out _ HB2.out)).mono ?_
  rintro e w3 ⟨v3, rfl, ho3, hb3⟩
  have HB3 : Hid (Below w.heap.size w w3) := below_step HB2.out hb3
  have HO1'' : Hid (EvOwns w3 w.heap.size v1 (L1.1.map decS)) := HO1'.out.below hb3
  have HO2' : Hid (EvOwns w3 w1.heap.size v2 (L2.1.map decS)) := HO2.out.below hb3
  have HO3 : Hid (EvOwns w3 w2.heap.size v3 (L3.1.map decS)) := ho3
  clear hb3 ho3 HV3 HO1' HO2 HB1 HB2
  have HBs : Hid (w.heap.size ≤ w3.heap.size) := HB3.out.size
  go_wp2_with (first
    | (at_builtin; refine wpList_append_two w3 ?x1 (.tmp 44) (.tmp 45) ?x2 w3.heap.size (.slice none 0 0) [] ?x3 (evs_nil _ _) _ v2 _ ?x4 HO2'.out ?x5 (Nat.le_refl _) ?x6; (case x1 => rfl); (case x2 => rfl); (case x3 => rfl); (case x4 => rfl); (case x5 => (simp only [List.length_nil, List.length_map]; omega)); intro u1 w4 ho4 hg4; have HG4 : Hid (w3.grownBy w4 none) := hg4; have HO4 : Hid (EvOwns w4 w3.heap.size u1 ([] ++ L2.1.map decS)) := ho4; have HO14 : Hid (EvOwns w4 w.heap.size v1 (L1.1.map decS)) := HO1''.out.grown hg4 (fun k _ e => by cases e); have HO34 : Hid (EvOwns w4 w2.heap.size v3 (L3.1.map decS)) := HO3.out.grown hg4 (fun k _ e => by cases e); have HB4 : Hid (Below w.heap.size w w4) := HB3.out.grown hg4 HBs.out (fun k e => by cases e); clear ho4 hg4 HO3 HO2' HB3)
    | (at_builtin; refine wpList_append_two w4 ?y1 (.tmp 47) (.tmp 48) ?y2 w3.heap.size u1 _ ?y3 HO4.out _ v3 _ ?y4 HO34.out ?y5 HG4.out.size ?y6; (case y1 => rfl); (case y2 => rfl); (case y3 => rfl); (case y4 => rfl); (case y5 => (simp only [List.nil_append, List.length_map]; omega)); intro u2 w5 ho5 hg5; have HO5 : Hid (EvOwns w5 w3.heap.size u2 (L1.1.map decS)) := (by rw [HAp.out]; exact ho5); have HO15 : Hid (EvOwns w5 w.heap.size v1 (L1.1.map decS)) := HO14.out.grown hg5 (fun k hk e => by (have h1 := (HO1''.out.base k hk).2); (have h2 := (HO4.out.base k e).1); omega); have HB5 : Hid (Below w.heap.size w w5) := HB4.out.grown hg5 (Nat.le_trans HBs.out HG4.out.size) (fun k e => Nat.le_trans HBs.out (HO4.out.base k e).1); clear ho5 hg5 HO14 HO34 HO4 HB4 HG4 HO1''))
  refine (same_any (L1.1.map decS) (by rw [List.length_map]; omega) _ _ v1 u2 w5 HO15.out HO5.out).mono ?_
  rintro e w6 ⟨rfl, hb6⟩
  have HB6 : Hid (Below w.heap.size w w6) := below_step HB5.out hb6
  have HB6d : Hid (Below w.heap.size w w6.drew) := HB6.out.drew
  clear hb6 HO15 HO5 HB5
  go_wp2_with (go_at_call 13; refine (sure_any _ (HE.out _ HB6.out)).mono ?_; rintro e w7 ⟨rfl, hb7⟩; have HB7 : Hid (Below w.heap.size w w7) := below_step HB6.out hb7; clear hb7)
  go_ret
  exact ⟨rfl, HB7.out⟩

set_option maxRecDepth 20000 in
set_option maxHeartbeats 2000000 in
theorem pieces_low (s : ByteArray) (hs : s.size ≤ 1048576) (n : Nat) (hn : n ≤ s.size) (hq : (s.size : Int).tdiv 2 = n) (i : Int) (hi : i < 0) (w : World) (hE : Env w) :
    Calls Tryz.prog 7 #[.string s, .int .i64 i] w fun e w' => e = .returned (.bool true) ∧ Below w.heap.size w w' := by
  have HE : Hid (∀ W, Below w.heap.size w W → Env W) := fun W h => hE.below h
  have e1 : (s.extract 0 n).data.toList = s.data.toList.take n := Lib.extract_from_zero s n
  have e2 : (s.extract n s.size).data.toList = s.data.toList.drop n := Lib.extract_to_end s n
  have hap := linesS_append (s.data.toList.take n).length (s.data.toList.take n) (s.data.toList.drop n) (Nat.le_refl _)
  have hr2 := linesS_rest _ (s.data.toList.take n) (Nat.le_refl _)
  rw [List.take_append_drop] at hap
  obtain ⟨L1, hL1⟩ : ∃ x, linesS s.data.toList = x := ⟨_, rfl⟩
  obtain ⟨L2, hL2⟩ : ∃ x, linesS (s.data.toList.take n) = x := ⟨_, rfl⟩
  rw [hL1, hL2] at hap
  rw [hL2, List.length_take, size_data] at hr2
  obtain ⟨L3, hL3⟩ : ∃ x, linesS (L2.2 ++ s.data.toList.drop n) = x := ⟨_, rfl⟩
  rw [hL3] at hap
  have HAp : Hid (L1.1.map decS = ([] ++ L2.1.map decS) ++ L3.1.map decS) := by rw [hap, List.map_append]; rfl
  have h12 : L1.2 = L3.2 := by rw [hap]
  have hc1 := linesS_count _ s.data.toList (Nat.le_refl _)
  rw [hL1, size_data] at hc1
  have hc2 : L1.1.length = L2.1.length + L3.1.length := by rw [hap, List.length_append]
  clear hap
  have hsz2 : L2.2.length ≤ s.size := by omega
  have HV1 : Hid (∀ W, Env W → Calls Tryz.prog 15 #[.string s] W fun e w' => ∃ v, e = .returned (.tuple #[v, .string (str L3.2)]) ∧ EvOwns w' W.heap.size v (L1.1.map decS) ∧ Below W.heap.size W w') := fun W hW => by
    have := events_any s (by omega) W hW
    rw [hL1, h12] at this
    exact this
  have HV2 : Hid (∀ W, Env W → Calls Tryz.prog 15 #[.string (s.extract 0 n)] W fun e w' => ∃ v, e = .returned (.tuple #[v, .string (str L2.2)]) ∧ EvOwns w' W.heap.size v (L2.1.map decS) ∧ Below W.heap.size W w') := fun W hW => by
    have := events_any (s.extract 0 n) (by rw [← size_data, e1, List.length_take, size_data]; omega) W hW
    rw [e1, hL2] at this
    exact this
  have HV3 : Hid (∀ W, Env W → Calls Tryz.prog 15 #[.string (str L2.2 ++ s.extract n s.size)] W fun e w' => ∃ v, e = .returned (.tuple #[v, .string (str L3.2)]) ∧ EvOwns w' W.heap.size v (L3.1.map decS) ∧ Below W.heap.size W w') := fun W hW => by
    have e3 : (str L2.2 ++ s.extract n s.size).data.toList = L2.2 ++ s.data.toList.drop n := by
      rw [ByteArray.data_append, Array.toList_append, e2]; rfl
    have := events_any (str L2.2 ++ s.extract n s.size) (by rw [← size_data, e3, List.length_append, List.length_drop, size_data]; omega) W hW
    rw [e3, hL3] at this
    exact this
  clear hE e1 e2 hL1 hL2 hL3 h12
  go_enter Tryz.func7, Tryz.ntmps7
  go_wp2_with fail
  refine (HV1.out _ (HE.out _ (Below.refl _ _))).mono ?_
  rintro e w1 ⟨v1, rfl, ho1, hb1⟩
  have HB1 : Hid (Below w.heap.size w w1) := hb1
  have HO1 : Hid (EvOwns w1 w.heap.size v1 (L1.1.map decS)) := ho1
  clear hb1 ho1 HV1
  go_wp2_with fail
  refine (HV2.out _ (HE.out _ HB1.out)).mono ?_
  rintro e w2 ⟨v2, rfl, ho2, hb2⟩
  have HB2 : Hid (Below w.heap.size w w2) := below_step HB1.out hb2
  have HO1' : Hid (EvOwns w2 w.heap.size v1 (L1.1.map decS)) := HO1.out.below hb2
  have HO2 : Hid (EvOwns w2 w1.heap.size v2 (L2.1.map decS)) := ho2
  clear hb2 ho2 HV2 HO1
  have z2 : (str L2.2).size ≤ 1048576 := by rw [str_size]; omega
  have z3 : (s.extract n s.size).size ≤ 1048576 := by rw [ByteArray.size_extract]; omega
  go_wp2_with fail
  refine (HV3.out _ (HE.out _ HB2.out)).mono ?_
  rintro e w3 ⟨v3, rfl, ho3, hb3⟩
  have HB3 : Hid (Below w.heap.size w w3) := below_step HB2.out hb3
  have HO1'' : Hid (EvOwns w3 w.heap.size v1 (L1.1.map decS)) := HO1'.out.below hb3
  have HO2' : Hid (EvOwns w3 w1.heap.size v2 (L2.1.map decS)) := HO2.out.below hb3
  have HO3 : Hid (EvOwns w3 w2.heap.size v3 (L3.1.map decS)) := ho3
  clear hb3 ho3 HV3 HO1' HO2 HB1 HB2
  have HBs : Hid (w.heap.size ≤ w3.heap.size) := HB3.out.size
  go_wp2_with (first
    | (at_builtin; refine wpList_append_two w3 ?x1 (.tmp 44) (.tmp 45) ?x2 w3.heap.size (.slice none 0 0) [] ?x3 (evs_nil _ _) _ v2 _ ?x4 HO2'.out ?x5 (Nat.le_refl _) ?x6; (case x1 => rfl); (case x2 => rfl); (case x3 => rfl); (case x4 => rfl); (case x5 => (simp only [List.length_nil, List.length_map]; omega)); intro u1 w4 ho4 hg4; have HG4 : Hid (w3.grownBy w4 none) := hg4; have HO4 : Hid (EvOwns w4 w3.heap.size u1 ([] ++ L2.1.map decS)) := ho4; have HO14 : Hid (EvOwns w4 w.heap.size v1 (L1.1.map decS)) := HO1''.out.grown hg4 (fun k _ e => by cases e); have HO34 : Hid (EvOwns w4 w2.heap.size v3 (L3.1.map decS)) := HO3.out.grown hg4 (fun k _ e => by cases e); have HB4 : Hid (Below w.heap.size w w4) := HB3.out.grown hg4 HBs.out (fun k e => by cases e); clear ho4 hg4 HO3 HO2' HB3)
    | (at_builtin; refine wpList_append_two w4 ?y1 (.tmp 47) (.tmp 48) ?y2 w3.heap.size u1 _ ?y3 HO4.out _ v3 _ ?y4 HO34.out ?y5 HG4.out.size ?y6; (case y1 => rfl); (case y2 => rfl); (case y3 => rfl); (case y4 => rfl); (case y5 => (simp only [List.nil_append, List.length_map]; omega)); intro u2 w5 ho5 hg5; have HO5 : Hid (EvOwns w5 w3.heap.size u2 (L1.1.map decS)) := (by rw [HAp.out]; exact ho5); have HO15 : Hid (EvOwns w5 w.heap.size v1 (L1.1.map decS)) := HO14.out.grown hg5 (fun k hk e => by (have h1 := (HO1''.out.base k hk).2); (have h2 := (HO4.out.base k e).1); omega); have HB5 : Hid (Below w.heap.size w w5) := HB4.out.grown hg5 (Nat.le_trans HBs.out HG4.out.size) (fun k e => Nat.le_trans HBs.out (HO4.out.base k e).1); clear ho5 hg5 HO14 HO34 HO4 HB4 HG4 HO1''))
  refine (same_any (L1.1.map decS) (by rw [List.length_map]; omega) _ _ v1 u2 w5 HO15.out HO5.out).mono ?_
  rintro e w6 ⟨rfl, hb6⟩
  have HB6 : Hid (Below w.heap.size w w6) := below_step HB5.out hb6
  have HB6d : Hid (Below w.heap.size w w6.drew) := HB6.out.drew
  clear hb6 HO15 HO5 HB5
  go_wp2_with (go_at_call 13; refine (sure_any _ (HE.out _ HB6.out)).mono ?_; rintro e w7 ⟨rfl, hb7⟩; have HB7 : Hid (Below w.heap.size w w7) := below_step HB6.out hb7; clear hb7)
  go_ret
  exact ⟨rfl, HB7.out⟩

set_option maxRecDepth 20000 in
set_option maxHeartbeats 2000000 in
theorem pieces_high (s : ByteArray) (hs : s.size ≤ 1048576) (n : Nat) (hn : n ≤ s.size) (hq : (s.size : Int).tdiv 2 = n) (i : Int) (hi0 : ¬ i < 0) (hi : (s.size : Int) < i) (w : World) (hE : Env w) :
    Calls Tryz.prog 7 #[.string s, .int .i64 i] w fun e w' => e = .returned (.bool true) ∧ Below w.heap.size w w' := by
  have HE : Hid (∀ W, Below w.heap.size w W → Env W) := fun W h => hE.below h
  have e1 : (s.extract 0 n).data.toList = s.data.toList.take n := Lib.extract_from_zero s n
  have e2 : (s.extract n s.size).data.toList = s.data.toList.drop n := Lib.extract_to_end s n
  have hap := linesS_append (s.data.toList.take n).length (s.data.toList.take n) (s.data.toList.drop n) (Nat.le_refl _)
  have hr2 := linesS_rest _ (s.data.toList.take n) (Nat.le_refl _)
  rw [List.take_append_drop] at hap
  obtain ⟨L1, hL1⟩ : ∃ x, linesS s.data.toList = x := ⟨_, rfl⟩
  obtain ⟨L2, hL2⟩ : ∃ x, linesS (s.data.toList.take n) = x := ⟨_, rfl⟩
  rw [hL1, hL2] at hap
  rw [hL2, List.length_take, size_data] at hr2
  obtain ⟨L3, hL3⟩ : ∃ x, linesS (L2.2 ++ s.data.toList.drop n) = x := ⟨_, rfl⟩
  rw [hL3] at hap
  have HAp : Hid (L1.1.map decS = ([] ++ L2.1.map decS) ++ L3.1.map decS) := by rw [hap, List.map_append]; rfl
  have h12 : L1.2 = L3.2 := by rw [hap]
  have hc1 := linesS_count _ s.data.toList (Nat.le_refl _)
  rw [hL1, size_data] at hc1
  have hc2 : L1.1.length = L2.1.length + L3.1.length := by rw [hap, List.length_append]
  clear hap
  have hsz2 : L2.2.length ≤ s.size := by omega
  have HV1 : Hid (∀ W, Env W → Calls Tryz.prog 15 #[.string s] W fun e w' => ∃ v, e = .returned (.tuple #[v, .string (str L3.2)]) ∧ EvOwns w' W.heap.size v (L1.1.map decS) ∧ Below W.heap.size W w') := fun W hW => by
    have := events_any s (by omega) W hW
    rw [hL1, h12] at this
    exact this
  have HV2 : Hid (∀ W, Env W → Calls Tryz.prog 15 #[.string (s.extract 0 n)] W fun e w' => ∃ v, e = .returned (.tuple #[v, .string (str L2.2)]) ∧ EvOwns w' W.heap.size v (L2.1.map decS) ∧ Below W.heap.size W w') := fun W hW => by
    have := events_any (s.extract 0 n) (by rw [← size_data, e1, List.length_take, size_data]; omega) W hW
    rw [e1, hL2] at this
    exact this
  have HV3 : Hid (∀ W, Env W → Calls Tryz.prog 15 #[.string (str L2.2 ++ s.extract n s.size)] W fun e w' => ∃ v, e = .returned (.tuple #[v, .string (str L3.2)]) ∧ EvOwns w' W.heap.size v (L3.1.map decS) ∧ Below W.heap.size W w') := fun W hW => by
    have e3 : (str L2.2 ++ s.extract n s.size).data.toList = L2.2 ++ s.data.toList.drop n := by
      rw [ByteArray.data_append, Array.toList_append, e2]; rfl
    have := events_any (str L2.2 ++ s.extract n s.size) (by rw [← size_data, e3, List.length_append, List.length_drop, size_data]; omega) W hW
    rw [e3, hL3] at this
    exact this
  clear hE e1 e2 hL1 hL2 hL3 h12
  go_enter Tryz.func7, Tryz.ntmps7
  go_wp2_with fail
  refine (HV1.out _ (HE.out _ (Below.refl _ _))).mono ?_
  rintro e w1 ⟨v1, rfl, ho1, hb1⟩
  have HB1 : Hid (Below w.heap.size w w1) := hb1
  have HO1 : Hid (EvOwns w1 w.heap.size v1 (L1.1.map decS)) := ho1
  clear hb1 ho1 HV1
  go_wp2_with fail
  refine (HV2.out _ (HE.out _ HB1.out)).mono ?_
  rintro e w2 ⟨v2, rfl, ho2, hb2⟩
  have HB2 : Hid (Below w.heap.size w w2) := below_step HB1.out hb2
  have HO1' : Hid (EvOwns w2 w.heap.size v1 (L1.1.map decS)) := HO1.out.below hb2
  have HO2 : Hid (EvOwns w2 w1.heap.size v2 (L2.1.map decS)) := ho2
  clear hb2 ho2 HV2 HO1
  have z2 : (str L2.2).size ≤ 1048576 := by rw [str_size]; omega
  have z3 : (s.extract n s.size).size ≤ 1048576 := by rw [ByteArray.size_extract]; omega
  go_wp2_with fail
  refine (HV3.out _ (HE.out _ HB2.out)).mono ?_
  rintro e w3 ⟨v3, rfl, ho3, hb3⟩
  have HB3 : Hid (Below w.heap.size w w3) := below_step HB2.out hb3
  have HO1'' : Hid (EvOwns w3 w.heap.size v1 (L1.1.map decS)) := HO1'.out.below hb3
  have HO2' : Hid (EvOwns w3 w1.heap.size v2 (L2.1.map decS)) := HO2.out.below hb3
  have HO3 : Hid (EvOwns w3 w2.heap.size v3 (L3.1.map decS)) := ho3
  clear hb3 ho3 HV3 HO1' HO2 HB1 HB2
  have HBs : Hid (w.heap.size ≤ w3.heap.size) := HB3.out.size
  go_wp2_with (first
    | (at_builtin; refine wpList_append_two w3 ?x1 (.tmp 44) (.tmp 45) ?x2 w3.heap.size (.slice none 0 0) [] ?x3 (evs_nil _ _) _ v2 _ ?x4 HO2'.out ?x5 (Nat.le_refl _) ?x6; (case x1 => rfl); (case x2 => rfl); (case x3 => rfl); (case x4 => rfl); (case x5 => (simp only [List.length_nil, List.length_map]; omega)); intro u1 w4 ho4 hg4; have HG4 : Hid (w3.grownBy w4 none) := hg4; have HO4 : Hid (EvOwns w4 w3.heap.size u1 ([] ++ L2.1.map decS)) := ho4; have HO14 : Hid (EvOwns w4 w.heap.size v1 (L1.1.map decS)) := HO1''.out.grown hg4 (fun k _ e => by cases e); have HO34 : Hid (EvOwns w4 w2.heap.size v3 (L3.1.map decS)) := HO3.out.grown hg4 (fun k _ e => by cases e); have HB4 : Hid (Below w.heap.size w w4) := HB3.out.grown hg4 HBs.out (fun k e => by cases e); clear ho4 hg4 HO3 HO2' HB3)
    | (at_builtin; refine wpList_append_two w4 ?y1 (.tmp 47) (.tmp 48) ?y2 w3.heap.size u1 _ ?y3 HO4.out _ v3 _ ?y4 HO34.out ?y5 HG4.out.size ?y6; (case y1 => rfl); (case y2 => rfl); (case y3 => rfl); (case y4 => rfl); (case y5 => (simp only [List.nil_append, List.length_map]; omega)); intro u2 w5 ho5 hg5; have HO5 : Hid (EvOwns w5 w3.heap.size u2 (L1.1.map decS)) := (by rw [HAp.out]; exact ho5); have HO15 : Hid (EvOwns w5 w.heap.size v1 (L1.1.map decS)) := HO14.out.grown hg5 (fun k hk e => by (have h1 := (HO1''.out.base k hk).2); (have h2 := (HO4.out.base k e).1); omega); have HB5 : Hid (Below w.heap.size w w5) := HB4.out.grown hg5 (Nat.le_trans HBs.out HG4.out.size) (fun k e => Nat.le_trans HBs.out (HO4.out.base k e).1); clear ho5 hg5 HO14 HO34 HO4 HB4 HG4 HO1''))
  refine (same_any (L1.1.map decS) (by rw [List.length_map]; omega) _ _ v1 u2 w5 HO15.out HO5.out).mono ?_
  rintro e w6 ⟨rfl, hb6⟩
  have HB6 : Hid (Below w.heap.size w w6) := below_step HB5.out hb6
  have HB6d : Hid (Below w.heap.size w w6.drew) := HB6.out.drew
  clear hb6 HO15 HO5 HB5
  go_wp2_with (go_at_call 13; refine (sure_any _ (HE.out _ HB6.out)).mono ?_; rintro e w7 ⟨rfl, hb7⟩; have HB7 : Hid (Below w.heap.size w w7) := below_step HB6.out hb7; clear hb7)
  go_ret
  exact ⟨rfl, HB7.out⟩

theorem wirePieces_walk (a0 : ByteArray) (a1 : Int) (hsh : a0.size ≤ 1048576) (w1 : (Lit.int .i64 a1).wf = true) (w : World) (hE : Env w) :
    Calls Tryz.prog 7 #[.string a0, .int .i64 a1] w fun e w' => e = .returned (.bool true) ∧ Below w.heap.size w w' := by
  have hq : (a0.size : Int).tdiv 2 = ((a0.size / 2 : Nat) : Int) := by rw [Int.tdiv_eq_ediv_of_nonneg (by omega)]; omega
  by_cases h0 : a1 < 0
  · exact pieces_low a0 hsh (a0.size / 2) (by omega) hq a1 h0 w hE
  · by_cases h1 : (a0.size : Int) < a1
    · exact pieces_high a0 hsh (a0.size / 2) (by omega) hq a1 h0 h1 w hE
    · obtain ⟨n, rfl⟩ : ∃ n : Nat, a1 = n := ⟨a1.toNat, by omega⟩
      exact pieces_in a0 hsh n (by omega) w hE

end Go.Proofs.YtcgpgnifaeikeaaGreatDoor
