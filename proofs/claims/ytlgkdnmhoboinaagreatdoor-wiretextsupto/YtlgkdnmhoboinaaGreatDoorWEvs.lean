/-
  Events: the lines of a text.
-/
import Derived.Test.YtlgkdnmhoboinaaGreatDoorWTotalW
import Derived.WalkKit
import Derived.LoopTactic
import Derived.OwnWalk
import Derived.Lib.IndexBytes
namespace Go.Proofs.YtlgkdnmhoboinaaGreatDoor
open Go.RowKit
set_option linter.unusedVariables false

/-- A text's lines, and what is left. -/
def cutLines : Nat → List UInt8 → List (List UInt8) × List UInt8
  | 0, l => ([], l)
  | n + 1, l => if 10 ∈ l then (l.takeWhile (· != 10) :: (cutLines n ((l.dropWhile (· != 10)).drop 1)).1, (cutLines n ((l.dropWhile (· != 10)).drop 1)).2) else ([], l)
def linesS (l : List UInt8) : List (List UInt8) × List UInt8 := cutLines l.length l

theorem split10 : ∀ l : List UInt8, (10 : UInt8) ∈ l → l = l.takeWhile (· != 10) ++ 10 :: (l.dropWhile (· != 10)).drop 1
  | [], h => by cases h
  | c :: l, h => by
    by_cases hc : c = 10
    · subst hc
      rw [List.takeWhile_cons_of_neg (by simp), List.dropWhile_cons_of_neg (by simp)]
      rfl
    · rw [List.takeWhile_cons_of_pos (by simpa using hc), List.dropWhile_cons_of_pos (by simpa using hc), List.cons_append, ← split10 l ((List.mem_cons.1 h).resolve_left fun e => hc e.symm)]
theorem rest10 (l : List UInt8) (h : (10 : UInt8) ∈ l) : ((l.dropWhile (· != 10)).drop 1).length < l.length := by
  have := congrArg List.length (split10 l h)
  rw [List.length_append, List.length_cons] at this
  omega
theorem cutLines_big : ∀ (n m : Nat) (l : List UInt8), l.length ≤ n → l.length ≤ m → cutLines n l = cutLines m l
  | 0, m, l, h, h' => by
    have : l = [] := List.length_eq_zero_iff.1 (by omega)
    subst this
    cases m <;> simp [cutLines]
  | n + 1, 0, l, h, h' => by
    have : l = [] := List.length_eq_zero_iff.1 (by omega)
    subst this
    simp [cutLines]
  | n + 1, m + 1, l, h, h' => by
    unfold cutLines
    by_cases hm : (10 : UInt8) ∈ l
    · have hl := rest10 l hm
      rw [if_pos hm, if_pos hm, cutLines_big n m _ (by omega) (by omega)]
    · rw [if_neg hm, if_neg hm]
theorem linesS_no {l : List UInt8} (h : ¬ (10 : UInt8) ∈ l) : linesS l = ([], l) := by
  unfold linesS
  cases hn : l.length with
  | zero => rfl
  | succ n => unfold cutLines; rw [if_neg h]
theorem linesS_yes {l : List UInt8} (h : (10 : UInt8) ∈ l) : linesS l = (l.takeWhile (· != 10) :: (linesS ((l.dropWhile (· != 10)).drop 1)).1, (linesS ((l.dropWhile (· != 10)).drop 1)).2) := by
  have hl := rest10 l h
  unfold linesS
  cases hn : l.length with
  | zero => omega
  | succ n =>
    have e : cutLines (n + 1) l = (l.takeWhile (· != 10) :: (cutLines n ((l.dropWhile (· != 10)).drop 1)).1, (cutLines n ((l.dropWhile (· != 10)).drop 1)).2) := by
      have e0 : ∀ l : List UInt8, cutLines (n + 1) l = if 10 ∈ l then (l.takeWhile (· != 10) :: (cutLines n ((l.dropWhile (· != 10)).drop 1)).1, (cutLines n ((l.dropWhile (· != 10)).drop 1)).2) else ([], l) := fun _ => rfl
      rw [e0, if_pos h]
    rw [e, cutLines_big n _ _ (by omega) (Nat.le_refl _)]
theorem linesS_count : ∀ (n : Nat) (l : List UInt8), l.length ≤ n → (linesS l).1.length ≤ l.length
  | n, l, h => by
    by_cases hm : (10 : UInt8) ∈ l
    · have hl := rest10 l hm
      rw [linesS_yes hm]
      cases n with
      | zero => omega
      | succ n =>
        have := linesS_count n ((l.dropWhile (· != 10)).drop 1) (by omega)
        show _ + 1 ≤ _
        omega
    · rw [linesS_no hm]; simp

/-- strings.Cut at a line's end. -/
theorem idx10 : ∀ s : List UInt8, (Lib.indexByte s 10 = -1 ∧ ¬ (10 : UInt8) ∈ s) ∨ ∃ i : Nat, Lib.indexByte s 10 = i ∧ (10 : UInt8) ∈ s ∧ s.take i = s.takeWhile (· != 10) ∧ s.drop (i + 1) = (s.dropWhile (· != 10)).drop 1
  | [] => .inl ⟨rfl, by simp⟩
  | c :: s => by
    by_cases hc : c = 10
    · subst hc
      exact .inr ⟨0, by simp [Lib.indexByte], by simp, by simp, by simp⟩
    · rcases idx10 s with ⟨h1, h2⟩ | ⟨i, h1, h2, h3, h4⟩
      · refine .inl ⟨?_, ?_⟩
        · unfold Lib.indexByte
          rw [if_neg (by simpa using hc), if_pos (by simpa using h1)]
        · intro h
          rcases List.mem_cons.1 h with h | h
          · exact hc h.symm
          · exact h2 h
      · refine .inr ⟨i + 1, ?_, List.mem_cons_of_mem _ h2, ?_, ?_⟩
        · unfold Lib.indexByte
          have hb : ¬ (Lib.indexByte s 10 == -1) = true := fun e => by have := eq_of_beq e; omega
          rw [if_neg (by simpa using hc), if_neg hb, h1]
          rfl
        · rw [List.take_succ_cons, List.takeWhile_cons_of_pos (by simpa using hc), h3]
        · rw [List.drop_succ_cons, List.dropWhile_cons_of_pos (by simpa using hc), h4]
theorem cut10_no {s : List UInt8} (h : ¬ (10 : UInt8) ∈ s) : Lib.cut s [10] = (s, [], false) := by
  unfold Lib.cut
  rw [Lib.index_one]
  rcases idx10 s with ⟨h1, _⟩ | ⟨i, _, h2, _⟩
  · rw [if_neg (by omega)]
  · exact absurd h2 h
theorem cut10_yes {s : List UInt8} (h : (10 : UInt8) ∈ s) : Lib.cut s [10] = (s.takeWhile (· != 10), (s.dropWhile (· != 10)).drop 1, true) := by
  unfold Lib.cut
  rw [Lib.index_one]
  rcases idx10 s with ⟨_, h2⟩ | ⟨i, h1, _, h3, h4⟩
  · exact absurd h h2
  · rw [if_pos (by omega), h1]
    simp only [Int.toNat_natCast]
    rw [h3]
    show (_, s.drop (i + 1), true) = _
    rw [h4]

/-- A slice owns events. -/
def evCells (l : List Ev) : List Value := l.flatMap fun e => e.vals.toList
theorem evCells_length (l : List Ev) : (evCells l).length = l.length * 14 := by
  induction l with
  | nil => rfl
  | cons e l ih =>
    show (e.vals.toList ++ evCells l).length = _
    rw [List.length_append, ih, List.length_cons, show e.vals.toList.length = 14 from rfl]
    omega
theorem evCells_snoc (l : List Ev) (e : Ev) : evCells (l ++ [e]) = evCells l ++ e.vals.toList := by unfold evCells; simp
def EvOwns (w : World) (B : Nat) (v : Value) (l : List Ev) : Prop := w.ownsRow B 28 14 v l.length (evCells l)
theorem EvOwns.below {w w' : World} {B : Nat} {v : Value} {l : List Ev} (h : EvOwns w B v l) (hb : Below w.heap.size w w') : EvOwns w' B v l :=
  World.ownsRow.kept (row := none) h ⟨hb.os, hb.tape, hb.output, hb.size, fun k hk _ => hb.block k hk⟩ (by cases v.ownBlock <;> simp)
theorem infoEv : (Tryz.prog.info? 28).map (fun i => (i.zero, i.size, i.bytes)) = some (some (.agg (Ev.zero 0).vals), 14, 144) := by kernel_rfl

theorem below_drewN {B : Nat} {a w : World} (h : Below B a w) (n : Nat) : Below B a (w.drewN n) := ⟨h.os, h.tape, h.output, h.size, h.block⟩

/-- One event appended to what is owned. -/
theorem wpList_append_ev {ops : Array Oper} {rest : List Oper} {o : Oper} {a : Act} {Q : Exit → Act → World → Prop} (w : World) (hgd : o.guard = none) (s x : Operand)
    (ho : o.op = .call { callee := .builtin .append, args := #[s, x], argTypes := #[22, 22] })
    (B : Nat) (v : Value) (l : List Ev) (e : Ev) (hs : a.eval s = v) (hown : EvOwns w B v l) (hx : a.eval x = .slice (some ⟨w.heap.size, 0, none⟩) 1 1) (hlen : l.length ≤ 16777216) (hB : B ≤ w.heap.size)
    (h : ∀ v' w', EvOwns w' B v' (l ++ [e]) → Below B w w' → wpList Tryz.prog ops Q rest (a.put o.dst v') w') : wpList Tryz.prog ops Q (o :: rest) a (w.alloc (.cells e.vals 28)) := by
  obtain ⟨i0, hi, hz0, hz1, hz2⟩ := info_parts infoEv
  have hown' : (w.alloc (.cells e.vals 28)).ownsRow B 28 14 v l.length (evCells l) := World.ownsRow.alloc hown _
  refine wpList_append_own _ hgd s x 22 ho B 28 i0 (.agg (Ev.zero 0).vals) 14 144 Tryz.underlying22 hi hz0 hz1 hz2 rfl (by decide) v l.length (evCells l) hs hown' ⟨w.heap.size, 0, none⟩ 1 1 e.vals.toList hx rfl ?_ ?_ ?_ ?_ ?_ ?_
  · intro j u hu
    rw [show (⟨w.heap.size, 0, none⟩ : Addr).add j = ⟨w.heap.size, j, none⟩ by unfold Addr.add; split <;> simp_all, cell_at (heap_alloc_new w _)]
    simpa using hu
  · intro u hu
    have hu' : u ∈ [Value.int .i64 e.kind, .int .i64 e.session, .int .i64 e.window, .int .i64 e.pane, .int .i64 e.index, .int .i64 e.offset, .int .i64 e.tick, .int .i64 e.number, .int .i64 e.flag, .string e.name, .string e.text, .string e.layout, .string e.visible, .bool e.zoom] := hu
    simp only [List.mem_cons, List.not_mem_nil, or_false] at hu'
    rcases hu' with rfl | rfl | rfl | rfl | rfl | rfl | rfl | rfl | rfl | rfl | rfl | rfl | rfl | rfl <;> rfl
  · unfold maxLen; omega
  · omega
  · rw [size1]; omega
  · intro v' w' h2 h3 _
    refine h v' w' ?_ ?_
    · unfold EvOwns
      rw [evCells_snoc, List.length_append]
      exact h2
    · refine ((Below.refl B w).alloc hB _).grown h3 (by rw [size1]; omega) (fun k hk => ?_)
      exact (World.ownsRow.lt hown k hk).1

theorem evs_nil (w : World) (B : Nat) : EvOwns w B (.slice none 0 0) [] := World.ownsRow_nil w B _ 14

/-- How long a text in a slot is. -/
def strSize : Value → Nat
  | .string b => b.size
  | _ => 0

set_option maxRecDepth 20000 in
set_option maxHeartbeats 1000000 in
theorem events_any (s : ByteArray) (hs : s.size ≤ 16777216) (w : World) (hE : Env w) :
    Calls Tryz.prog 12 #[.string s] w fun e w' => ∃ v, e = .returned (.tuple #[v, .string (str (linesS s.data.toList).2)]) ∧ EvOwns w' w.heap.size v ((linesS s.data.toList).1.map decS) ∧ Below w.heap.size w w' := by
  have HE : Hid (∀ W, Below w.heap.size w W → Env W) := fun W h => hE.below h
  obtain ⟨want, hwant⟩ : ∃ x, linesS s.data.toList = x := ⟨_, rfl⟩
  rw [hwant]
  have HW : Hid (linesS s.data.toList = want) := hwant
  clear hE hwant
  go_enter Tryz.func12, Tryz.ntmps12
  go_wp2
  go_loopw [0, 4] (fun t u wr => ∃ (txt : List UInt8) (done : List Ev) (v : Value), t = .string (str txt) ∧ v = u ∧ EvOwns wr w.heap.size v done ∧ Below w.heap.size w wr ∧ done ++ (linesS txt).1.map decS = want.1.map decS ∧ (linesS txt).2 = want.2 ∧ txt.length ≤ s.size ∧ done.length + txt.length ≤ s.size) (fun t _ _ => strSize t)
  case atStart => exact ⟨s.data.toList, [], _, rfl, rfl, evs_nil _ _, Below.refl _ _, by rw [HW.out]; rfl, by rw [HW.out], by rw [size_data]; exact Nat.le_refl _, by rw [size_data]; simp⟩
  case round =>
    obtain ⟨txt, done, v, rfl, huv, hown, hb, h1, h2, h3, h4⟩ := hrel
    subst huv
    obtain ⟨m, hm⟩ := (HE.out wr hb).most
    have HC := Tryz.strings_Cut (str txt) ⟨#[10]⟩ m wr (by rw [str_size]; omega) hm
    rw [str_data, show (⟨#[10]⟩ : ByteArray).data.toList = [10] from rfl] at HC
    have HOw : Hid (EvOwns wr w.heap.size v done) := hown
    have HB : Hid (Below w.heap.size w wr) := hb
    have HBn : Hid (∀ nd, Below wr.heap.size wr (wr.drewN nd)) := fun nd => below_drewN (Below.refl _ _) nd
    by_cases h10 : (10 : UInt8) ∈ txt
    · rw [cut10_yes h10] at HC
      have hl := linesS_yes h10
      have hr := rest10 txt h10
      have hlt : (txt.takeWhile (· != 10)).length ≤ txt.length := (List.takeWhile_sublist _).length_le
      rw [hl] at h1 h2
      obtain ⟨ln, hln⟩ : ∃ x, txt.takeWhile (· != 10) = x := ⟨_, rfl⟩
      obtain ⟨rs, hrs⟩ : ∃ x, (txt.dropWhile (· != 10)).drop 1 = x := ⟨_, rfl⟩
      rw [hln, hrs] at HC h1
      rw [hrs] at h2 hr
      rw [hln] at hlt
      have HC' : Hid (Calls Tryz.prog 27 #[.string (str txt), .string ⟨#[10]⟩] wr fun e w' => e = .returned (.tuple #[.string (str ln), .string (str rs), .bool true]) ∧ ∃ n, w' = wr.drewN n) := HC
      have HDe : Hid (∀ W, Env W → Calls Tryz.prog 15 #[.string (str ln)] W fun e w' => e = .returned (.agg (decS ln).vals) ∧ Below W.heap.size W w') := fun W hW => by
        have := decode_any (str ln) (by rw [str_size]; unfold lim; omega) W hW
        rw [str_data] at this
        exact this
      have H1 : Hid (done ++ (decS ln :: (linesS rs).1.map decS) = want.1.map decS) := h1
      have H2 : Hid ((linesS rs).2 = want.2) := h2
      obtain ⟨ev, hev⟩ : ∃ x, decS ln = x := ⟨_, rfl⟩
      rw [hev] at HDe H1
      unfold Ev.vals at HDe
      have hz1 : (str txt).size = txt.length := str_size _
      have hz2 : (str rs).size = rs.length := str_size _
      clear HC h1 h2 hl hln hrs h10 hown hb hm hev
      go_wp2_with fail
      refine HC'.out.mono ?_
      rintro e w1 ⟨rfl, nd, rfl⟩
      have HB1 : Hid (Below w.heap.size w (wr.drewN nd)) := below_step HB.out (HBn.out nd)
      have HO1 : Hid (EvOwns (wr.drewN nd) w.heap.size v done) := HOw.out.below (HBn.out nd)
      go_wp2_with fail
      refine (HDe.out _ (HE.out _ HB1.out)).mono ?_
      rintro e w2 ⟨rfl, hb2⟩
      have HB2 : Hid (Below w.heap.size w w2) := below_step HB1.out hb2
      have HO2 : Hid (EvOwns w2 w.heap.size v done) := HO1.out.below hb2
      have hsz : w.heap.size ≤ w2.heap.size := HB2.out.size
      clear hb2
      go_wp2_with (at_builtin; refine wpList_append_ev w2 rfl (.tmp 19) (.tmp 22) rfl w.heap.size v done ev rfl HO2.out rfl (by omega) hsz ?_; intro v' w3 hown3 hb3)
      go_roundw
      case rel => exact ⟨rs, done ++ [ev], v', rfl, rfl, hown3, HB2.out.trans hb3, by rw [List.append_assoc]; exact H1.out, H2.out, by omega, by rw [List.length_append]; simp; omega⟩
      case measure => simp [strSize]; omega
    · rw [cut10_no h10] at HC
      rw [linesS_no h10] at h1 h2
      have HC' : Hid (Calls Tryz.prog 27 #[.string (str txt), .string ⟨#[10]⟩] wr fun e w' => e = .returned (.tuple #[.string (str txt), .string (str []), .bool false]) ∧ ∃ n, w' = wr.drewN n) := HC
      have H1 : Hid (done = want.1.map decS) := by have h : done ++ [] = want.1.map decS := h1; rw [List.append_nil] at h; exact h
      have H2 : Hid (txt = want.2) := h2
      have hlim : (str txt).size ≤ lim := by rw [str_size]; unfold lim; omega
      clear HC h1 h2 h10 hown hb hm
      go_wp2_with fail
      refine HC'.out.mono ?_
      rintro e w1 ⟨rfl, nd, rfl⟩
      have HB1 : Hid (Below w.heap.size w (wr.drewN nd)) := below_step HB.out (HBn.out nd)
      have HO1 : Hid (EvOwns (wr.drewN nd) w.heap.size v done) := HOw.out.below (HBn.out nd)
      go_wp2_with (go_at_call 28; refine (clone_any _ _ hlim).mono ?_; rintro e w2 ⟨rfl, hb2⟩; have HB2 : Hid (Below w.heap.size w w2) := below_step HB1.out hb2; have HO2 : Hid (EvOwns w2 w.heap.size v done) := HO1.out.below hb2; clear hb2)
      go_ret2
      refine ⟨v, by rw [← H2.out]; rfl, by rw [← H1.out]; exact HO2.out, HB2.out⟩

end Go.Proofs.YtlgkdnmhoboinaaGreatDoor
