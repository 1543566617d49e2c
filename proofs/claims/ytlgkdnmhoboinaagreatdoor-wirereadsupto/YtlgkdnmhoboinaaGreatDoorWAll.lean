/-
  Events: the lines of a text.
  Two lists of events compared; a text that is cut in two.
  Two lists of events compared.
  The walk of WirePieces.
  The walk of WireBack.
  wire.Text.
  'same' of two rows of events, whatever they are.
  No line of an event holds a line feed; so a list's text tells the list.
-/
import Derived.Test.YtlgkdnmhoboinaaGreatDoorWTotalW
import Derived.WalkKit
import Derived.LoopTactic
import Derived.OwnWalk
import Derived.Lib.IndexBytes
import Derived.Deep.RegionHeld3
import Derived.Laws.StructEq
import Derived.Laws.AppendOwnNone
import Derived.RegionTactic
import Derived.Deep.RegionWith
import Derived.Deep.DrawnRows
namespace Go.Proofs.YtlgkdnmhoboinaaGreatDoor
open Go.RowKit
set_option linter.unusedVariables false

/-- A text's lines, and what is left. -/
def cutLines : Nat → List UInt8 → List (List UInt8) × List UInt8
  | 0, l => ([], l)
  | n + 1, l => if 10 ∈ l then (l.takeWhile (· != 10) :: (cutLines n ((l.dropWhile (· != 10)).drop 1)).1, (cutLines n ((l.dropWhile (· != 10)).drop 1)).2) else ([], l)
def linesS (l : List UInt8) : List (List UInt8) × List UInt8 := cutLines l.length l

theorem split10 : ∀ l : List UInt8, (10 : UInt8) ∈ l → l = l.takeWhile (· != 10) ++ 10 :: (l.dropWhile (· != 10)).drop 1
  | [], h => by cases h
  | c :: l, h => by
    by_cases hc : c = 10
    · subst hc
      rw [List.takeWhile_cons_of_neg (by simp), List.dropWhile_cons_of_neg (by simp)]
      rfl
    · rw [List.takeWhile_cons_of_pos (by simpa using hc), List.dropWhile_cons_of_pos (by simpa using hc), List.cons_append, ← split10 l ((List.mem_cons.1 h).resolve_left fun e => hc e.symm)]
theorem rest10 (l : List UInt8) (h : (10 : UInt8) ∈ l) : ((l.dropWhile (· != 10)).drop 1).length < l.length := by
  have := congrArg List.length (split10 l h)
  rw [List.length_append, List.length_cons] at this
  omega
theorem cutLines_big : ∀ (n m : Nat) (l : List UInt8), l.length ≤ n → l.length ≤ m → cutLines n l = cutLines m l
  | 0, m, l, h, h' => by
    have : l = [] := List.length_eq_zero_iff.1 (by omega)
    subst this
    cases m <;> simp [cutLines]
  | n + 1, 0, l, h, h' => by
    have : l = [] := List.length_eq_zero_iff.1 (by omega)
    subst this
    simp [cutLines]
  | n + 1, m + 1, l, h, h' => by
    unfold cutLines
    by_cases hm : (10 : UInt8) ∈ l
    · have hl := rest10 l hm
      rw [if_pos hm, if_pos hm, cutLines_big n m _ (by omega) (by omega)]
    · rw [if_neg hm, if_neg hm]
theorem linesS_no {l : List UInt8} (h : ¬ (10 : UInt8) ∈ l) : linesS l = ([], l) := by
  unfold linesS
  cases hn : l.length with
  | zero => rfl
  | succ n => unfold cutLines; rw [if_neg h]
theorem linesS_yes {l : List UInt8} (h : (10 : UInt8) ∈ l) : linesS l = (l.takeWhile (· != 10) :: (linesS ((l.dropWhile (· != 10)).drop 1)).1, (linesS ((l.dropWhile (· != 10)).drop 1)).2) := by
  have hl := rest10 l h
  unfold linesS
  cases hn : l.length with
  | zero => omega
  | succ n =>
    have e : cutLines (n + 1) l = (l.takeWhile (· != 10) :: (cutLines n ((l.dropWhile (· != 10)).drop 1)).1, (cutLines n ((l.dropWhile (· != 10)).drop 1)).2) := by
      have e0 : ∀ l : List UInt8, cutLines (n + 1) l = if 10 ∈ l then (l.takeWhile (· != 10) :: (cutLines n ((l.dropWhile (· != 10)).drop 1)).1, (cutLines n ((l.dropWhile (· != 10)).drop 1)).2) else ([], l) := fun _ => rfl
      rw [e0, if_pos h]
    rw [e, cutLines_big n _ _ (by omega) (Nat.le_refl _)]
theorem linesS_count : ∀ (n : Nat) (l : List UInt8), l.length ≤ n → (linesS l).1.length ≤ l.length
  | n, l, h => by
    by_cases hm : (10 : UInt8) ∈ l
    · have hl := rest10 l hm
      rw [linesS_yes hm]
      cases n with
      | zero => omega
      | succ n =>
        have := linesS_count n ((l.dropWhile (· != 10)).drop 1) (by omega)
        show _ + 1 ≤ _
        omega
    · rw [linesS_no hm]; simp

/-- strings.Cut at a line's end. -/
theorem idx10 : ∀ s : List UInt8, (Lib.indexByte s 10 = -1 ∧ ¬ (10 : UInt8) ∈ s) ∨ ∃ i : Nat, Lib.indexByte s 10 = i ∧ (10 : UInt8) ∈ s ∧ s.take i = s.takeWhile (· != 10) ∧ s.drop (i + 1) = (s.dropWhile (· != 10)).drop 1
  | [] => .inl ⟨rfl, by simp⟩
  | c :: s => by
    by_cases hc : c = 10
    · subst hc
      exact .inr ⟨0, by simp [Lib.indexByte], by simp, by simp, by simp⟩
    · rcases idx10 s with ⟨h1, h2⟩ | ⟨i, h1, h2, h3, h4⟩
      · refine .inl ⟨?_, ?_⟩
        · unfold Lib.indexByte
          rw [if_neg (by simpa using hc), if_pos (by simpa using h1)]
        · intro h
          rcases List.mem_cons.1 h with h | h
          · exact hc h.symm
          · exact h2 h
      · refine .inr ⟨i + 1, ?_, List.mem_cons_of_mem _ h2, ?_, ?_⟩
        · unfold Lib.indexByte
          have hb : ¬ (Lib.indexByte s 10 == -1) = true := fun e => by have := eq_of_beq e; omega
          rw [if_neg (by simpa using hc), if_neg hb, h1]
          rfl
        · rw [List.take_succ_cons, List.takeWhile_cons_of_pos (by simpa using hc), h3]
        · rw [List.drop_succ_cons, List.dropWhile_cons_of_pos (by simpa using hc), h4]
theorem cut10_no {s : List UInt8} (h : ¬ (10 : UInt8) ∈ s) : Lib.cut s [10] = (s, [], false) := by
  unfold Lib.cut
  rw [Lib.index_one]
  rcases idx10 s with ⟨h1, _⟩ | ⟨i, _, h2, _⟩
  · rw [if_neg (by omega)]
  · exact absurd h2 h
theorem cut10_yes {s : List UInt8} (h : (10 : UInt8) ∈ s) : Lib.cut s [10] = (s.takeWhile (· != 10), (s.dropWhile (· != 10)).drop 1, true) := by
  unfold Lib.cut
  rw [Lib.index_one]
  rcases idx10 s with ⟨_, h2⟩ | ⟨i, h1, _, h3, h4⟩
  · exact absurd h h2
  · rw [if_pos (by omega), h1]
    simp only [Int.toNat_natCast]
    rw [h3]
    show (_, s.drop (i + 1), true) = _
    rw [h4]

/-- A slice owns events. -/
def evCells (l : List Ev) : List Value := l.flatMap fun e => e.vals.toList
theorem evCells_length (l : List Ev) : (evCells l).length = l.length * 14 := by
  induction l with
  | nil => rfl
  | cons e l ih =>
    show (e.vals.toList ++ evCells l).length = _
    rw [List.length_append, ih, List.length_cons, show e.vals.toList.length = 14 from rfl]
    omega
theorem evCells_snoc (l : List Ev) (e : Ev) : evCells (l ++ [e]) = evCells l ++ e.vals.toList := by unfold evCells; simp
def EvOwns (w : World) (B : Nat) (v : Value) (l : List Ev) : Prop := w.ownsRow B 28 14 v l.length (evCells l)
theorem EvOwns.below {w w' : World} {B : Nat} {v : Value} {l : List Ev} (h : EvOwns w B v l) (hb : Below w.heap.size w w') : EvOwns w' B v l :=
  World.ownsRow.kept (row := none) h ⟨hb.os, hb.tape, hb.output, hb.size, fun k hk _ => hb.block k hk⟩ (by cases v.ownBlock <;> simp)
theorem infoEv : (Tryz.prog.info? 28).map (fun i => (i.zero, i.size, i.bytes)) = some (some (.agg (Ev.zero 0).vals), 14, 144) := by kernel_rfl

theorem below_drewN {B : Nat} {a w : World} (h : Below B a w) (n : Nat) : Below B a (w.drewN n) := ⟨h.os, h.tape, h.output, h.size, h.block⟩

/-- One event appended to what is owned. -/
theorem wpList_append_ev {ops : Array Oper} {rest : List Oper} {o : Oper} {a : Act} {Q : Exit → Act → World → Prop} (w : World) (hgd : o.guard = none) (s x : Operand)
    (ho : o.op = .call { callee := .builtin .append, args := #[s, x], argTypes := #[22, 22] })
    (B : Nat) (v : Value) (l : List Ev) (e : Ev) (hs : a.eval s = v) (hown : EvOwns w B v l) (hx : a.eval x = .slice (some ⟨w.heap.size, 0, none⟩) 1 1) (hlen : l.length ≤ 16777216) (hB : B ≤ w.heap.size)
    (h : ∀ v' w', EvOwns w' B v' (l ++ [e]) → Below B w w' → wpList Tryz.prog ops Q rest (a.put o.dst v') w') : wpList Tryz.prog ops Q (o :: rest) a (w.alloc (.cells e.vals 28)) := by
  obtain ⟨i0, hi, hz0, hz1, hz2⟩ := info_parts infoEv
  have hown' : (w.alloc (.cells e.vals 28)).ownsRow B 28 14 v l.length (evCells l) := World.ownsRow.alloc hown _
  refine wpList_append_own _ hgd s x 22 ho B 28 i0 (.agg (Ev.zero 0).vals) 14 144 Tryz.underlying22 hi hz0 hz1 hz2 rfl (by decide) v l.length (evCells l) hs hown' ⟨w.heap.size, 0, none⟩ 1 1 e.vals.toList hx rfl ?_ ?_ ?_ ?_ ?_ ?_
  · intro j u hu
    rw [show (⟨w.heap.size, 0, none⟩ : Addr).add j = ⟨w.heap.size, j, none⟩ by unfold Addr.add; split <;> simp_all, cell_at (heap_alloc_new w _)]
    simpa using hu
  · intro u hu
    have hu' : u ∈ [Value.int .i64 e.kind, .int .i64 e.session, .int .i64 e.window, .int .i64 e.pane, .int .i64 e.index, .int .i64 e.offset, .int .i64 e.tick, .int .i64 e.number, .int .i64 e.flag, .string e.name, .string e.text, .string e.layout, .string e.visible, .bool e.zoom] := hu
    simp only [List.mem_cons, List.not_mem_nil, or_false] at hu'
    rcases hu' with rfl | rfl | rfl | rfl | rfl | rfl | rfl | rfl | rfl | rfl | rfl | rfl | rfl | rfl <;> rfl
  · unfold maxLen; omega
  · omega
  · rw [size1]; omega
  · intro v' w' h2 h3 _
    refine h v' w' ?_ ?_
    · unfold EvOwns
      rw [evCells_snoc, List.length_append]
      exact h2
    · refine ((Below.refl B w).alloc hB _).grown h3 (by rw [size1]; omega) (fun k hk => ?_)
      exact (World.ownsRow.lt hown k hk).1

theorem evs_nil (w : World) (B : Nat) : EvOwns w B (.slice none 0 0) [] := World.ownsRow_nil w B _ 14

/-- How long a text in a slot is. -/
def strSize : Value → Nat
  | .string b => b.size
  | _ => 0

set_option maxRecDepth 20000 in
set_option maxHeartbeats 1000000 in
theorem events_any (s : ByteArray) (hs : s.size ≤ 16777216) (w : World) (hE : Env w) :
    Calls Tryz.prog 12 #[.string s] w fun e w' => ∃ v, e = .returned (.tuple #[v, .string (str (linesS s.data.toList).2)]) ∧ EvOwns w' w.heap.size v ((linesS s.data.toList).1.map decS) ∧ Below w.heap.size w w' := by
  have HE : Hid (∀ W, Below w.heap.size w W → Env W) := fun W h => hE.below h
  obtain ⟨want, hwant⟩ : ∃ x, linesS s.data.toList = x := ⟨_, rfl⟩
  rw [hwant]
  have HW : Hid (linesS s.data.toList = want) := hwant
  clear hE hwant
  go_enter Tryz.func12, Tryz.ntmps12
  go_wp2
  go_loopw [0, 4] (fun t u wr => ∃ (txt : List UInt8) (done : List Ev) (v : Value), t = .string (str txt) ∧ v = u ∧ EvOwns wr w.heap.size v done ∧ Below w.heap.size w wr ∧ done ++ (linesS txt).1.map decS = want.1.map decS ∧ (linesS txt).2 = want.2 ∧ txt.length ≤ s.size ∧ done.length + txt.length ≤ s.size) (fun t _ _ => strSize t)
  case atStart => exact ⟨s.data.toList, [], _, rfl, rfl, evs_nil _ _, Below.refl _ _, by rw [HW.out]; rfl, by rw [HW.out], by rw [size_data]; exact Nat.le_refl _, by rw [size_data]; simp⟩
  case round =>
    obtain ⟨txt, done, v, rfl, huv, hown, hb, h1, h2, h3, h4⟩ := hrel
    subst huv
    obtain ⟨m, hm⟩ := (HE.out wr hb).most
    have HC := Tryz.strings_Cut (str txt) ⟨#[10]⟩ m wr (by rw [str_size]; omega) hm
    rw [str_data, show (⟨#[10]⟩ : ByteArray).data.toList = [10] from rfl] at HC
    have HOw : Hid (EvOwns wr w.heap.size v done) := hown
    have HB : Hid (Below w.heap.size w wr) := hb
    have HBn : Hid (∀ nd, Below wr.heap.size wr (wr.drewN nd)) := fun nd => below_drewN (Below.refl _ _) nd
    by_cases h10 : (10 : UInt8) ∈ txt
    · rw [cut10_yes h10] at HC
      have hl := linesS_yes h10
      have hr := rest10 txt h10
      have hlt : (txt.takeWhile (· != 10)).length ≤ txt.length := (List.takeWhile_sublist _).length_le
      rw [hl] at h1 h2
      obtain ⟨ln, hln⟩ : ∃ x, txt.takeWhile (· != 10) = x := ⟨_, rfl⟩
      obtain ⟨rs, hrs⟩ : ∃ x, (txt.dropWhile (· != 10)).drop 1 = x := ⟨_, rfl⟩
      rw [hln, hrs] at HC h1
      rw [hrs] at h2 hr
      rw [hln] at hlt
      have HC' : Hid (Calls Tryz.prog 27 #[.string (str txt), .string ⟨#[10]⟩] wr fun e w' => e = .returned (.tuple #[.string (str ln), .string (str rs), .bool true]) ∧ ∃ n, w' = wr.drewN n) := HC
      have HDe : Hid (∀ W, Env W → Calls Tryz.prog 15 #[.string (str ln)] W fun e w' => e = .returned (.agg (decS ln).vals) ∧ Below W.heap.size W w') := fun W hW => by
        have := decode_any (str ln) (by rw [str_size]; unfold lim; omega) W hW
        rw [str_data] at this
        exact this
      have H1 : Hid (done ++ (decS ln :: (linesS rs).1.map decS) = want.1.map decS) := h1
      have H2 : Hid ((linesS rs).2 = want.2) := h2
      obtain ⟨ev, hev⟩ : ∃ x, decS ln = x := ⟨_, rfl⟩
      rw [hev] at HDe H1
      unfold Ev.vals at HDe
      have hz1 : (str txt).size = txt.length := str_size _
      have hz2 : (str rs).size = rs.length := str_size _
      clear HC h1 h2 hl hln hrs h10 hown hb hm hev
      go_wp2_with fail
      refine HC'.out.mono ?_
      rintro e w1 ⟨rfl, nd, rfl⟩
      have HB1 : Hid (Below w.heap.size w (wr.drewN nd)) := below_step HB.out (HBn.out nd)
      have HO1 : Hid (EvOwns (wr.drewN nd) w.heap.size v done) := HOw.out.below (HBn.out nd)
      go_wp2_with fail
      refine (HDe.out _ (HE.out _ HB1.out)).mono ?_
      rintro e w2 ⟨rfl, hb2⟩
      have HB2 : Hid (Below w.heap.size w w2) := below_step HB1.out hb2
      have HO2 : Hid (EvOwns w2 w.heap.size v done) := HO1.out.below hb2
      have hsz : w.heap.size ≤ w2.heap.size := HB2.out.size
      clear hb2
      go_wp2_with (at_builtin; refine wpList_append_ev w2 rfl (.tmp 19) (.tmp 22) rfl w.heap.size v done ev rfl HO2.out rfl (by omega) hsz ?_; intro v' w3 hown3 hb3)
      go_roundw
      case rel => exact ⟨rs, done ++ [ev], v', rfl, rfl, hown3, HB2.out.trans hb3, by rw [List.append_assoc]; exact H1.out, H2.out, by omega, by rw [List.length_append]; simp; omega⟩
      case measure => simp [strSize]; omega
    · rw [cut10_no h10] at HC
      rw [linesS_no h10] at h1 h2
      have HC' : Hid (Calls Tryz.prog 27 #[.string (str txt), .string ⟨#[10]⟩] wr fun e w' => e = .returned (.tuple #[.string (str txt), .string (str []), .bool false]) ∧ ∃ n, w' = wr.drewN n) := HC
      have H1 : Hid (done = want.1.map decS) := by have h : done ++ [] = want.1.map decS := h1; rw [List.append_nil] at h; exact h
      have H2 : Hid (txt = want.2) := h2
      have hlim : (str txt).size ≤ lim := by rw [str_size]; unfold lim; omega
      clear HC h1 h2 h10 hown hb hm
      go_wp2_with fail
      refine HC'.out.mono ?_
      rintro e w1 ⟨rfl, nd, rfl⟩
      have HB1 : Hid (Below w.heap.size w (wr.drewN nd)) := below_step HB.out (HBn.out nd)
      have HO1 : Hid (EvOwns (wr.drewN nd) w.heap.size v done) := HOw.out.below (HBn.out nd)
      go_wp2_with (go_at_call 28; refine (clone_any _ _ hlim).mono ?_; rintro e w2 ⟨rfl, hb2⟩; have HB2 : Hid (Below w.heap.size w w2) := below_step HB1.out hb2; have HO2 : Hid (EvOwns w2 w.heap.size v done) := HO1.out.below hb2; clear hb2)
      go_ret2
      refine ⟨v, by rw [← H2.out]; rfl, by rw [← H1.out]; exact HO2.out, HB2.out⟩

end Go.Proofs.YtlgkdnmhoboinaaGreatDoor

namespace Go.Proofs.YtlgkdnmhoboinaaGreatDoor
open Go.RowKit
set_option linter.unusedVariables false

theorem tw_app : ∀ a b : List UInt8, (10 : UInt8) ∈ a → (a ++ b).takeWhile (· != 10) = a.takeWhile (· != 10) ∧ ((a ++ b).dropWhile (· != 10)).drop 1 = (a.dropWhile (· != 10)).drop 1 ++ b
  | [], b, h => by cases h
  | c :: a, b, h => by
    rw [List.cons_append]
    by_cases hc : c = 10
    · subst hc
      rw [List.takeWhile_cons_of_neg (by simp), List.takeWhile_cons_of_neg (by simp), List.dropWhile_cons_of_neg (by simp), List.dropWhile_cons_of_neg (by simp)]
      exact ⟨rfl, rfl⟩
    · have h' := (List.mem_cons.1 h).resolve_left fun e => hc e.symm
      obtain ⟨i1, i2⟩ := tw_app a b h'
      rw [List.takeWhile_cons_of_pos (by simpa using hc), List.takeWhile_cons_of_pos (by simpa using hc), List.dropWhile_cons_of_pos (by simpa using hc), List.dropWhile_cons_of_pos (by simpa using hc), i1, i2]
      exact ⟨rfl, rfl⟩

/-- A text that is cut is read in two pieces as in one. -/
theorem linesS_append : ∀ (n : Nat) (a b : List UInt8), a.length ≤ n → linesS (a ++ b) = ((linesS a).1 ++ (linesS ((linesS a).2 ++ b)).1, (linesS ((linesS a).2 ++ b)).2)
  | n, a, b, hn => by
    by_cases hm : (10 : UInt8) ∈ a
    · have hr := rest10 a hm
      obtain ⟨t1, t2⟩ := tw_app a b hm
      rw [linesS_yes (l := a ++ b) (List.mem_append_left _ hm), linesS_yes hm, t1, t2]
      cases n with
      | zero => omega
      | succ n =>
        rw [linesS_append n ((a.dropWhile (· != 10)).drop 1) b (by omega)]
        rfl
    · rw [linesS_no hm]
      rfl

theorem evCells_at : ∀ (l : List Ev) (i o : Nat) (e : Ev), l[i]? = some e → o < 14 → (evCells l)[i * 14 + o]? = e.vals[o]?
  | [], i, o, e, h, _ => by cases h
  | x :: l, 0, o, e, h, ho => by
    cases h
    show (x.vals.toList ++ evCells l)[0 * 14 + o]? = _
    rw [Nat.zero_mul, Nat.zero_add, List.getElem?_append_left (by show o < 14; exact ho), Array.getElem?_toList]
  | x :: l, i + 1, o, e, h, ho => by
    show (x.vals.toList ++ evCells l)[(i + 1) * 14 + o]? = _
    rw [List.getElem?_append_right (by show 14 ≤ _; omega), show (i + 1) * 14 + o - x.vals.toList.length = i * 14 + o by show (i + 1) * 14 + o - 14 = _; omega]
    exact evCells_at l i o e (by simpa using h) ho

theorem EvOwns.shape {w : World} {B : Nat} {v : Value} {l : List Ev} (h : EvOwns w B v l) : (v = .slice none 0 0 ∧ l = []) ∨ ∃ g cap, v = .slice (some ⟨g, 0, none⟩) l.length cap ∧ l.length ≤ cap ∧ B ≤ g ∧ g < w.heap.size := by
  rcases h.2 with ⟨h1, h2⟩ | ⟨g, cap, cur, h1, h2, h3, h4, _⟩
  · exact .inl ⟨h1, List.length_eq_zero_iff.1 h2⟩
  · exact .inr ⟨g, cap, h1, h4, h2, lt_of_block h3⟩
theorem EvOwns.cell {w : World} {B : Nat} {l : List Ev} {g n cap : Nat} (h : EvOwns w B (.slice (some ⟨g, 0, none⟩) n cap) l) {i : Nat} {e : Ev} (hi : l[i]? = some e) (o : Nat) (ho : o < 14) : w.cell? ⟨g, i * 14 + o, none⟩ = e.vals[o]? := by
  obtain ⟨u, hu⟩ : ∃ u, e.vals[o]? = some u := ⟨_, Array.getElem?_eq_getElem (by show o < 14; exact ho)⟩
  have := World.ownsRow.cells h (g := g) rfl (i * 14 + o) u (by rw [evCells_at l i o e hi ho]; exact hu)
  rw [show (⟨g, 0, none⟩ : Addr).add (i * 14 + o) = ⟨g, i * 14 + o, none⟩ by unfold Addr.add; split <;> simp_all] at this
  rw [this, hu]
theorem EvOwns.cells14 {w : World} {B : Nat} {l : List Ev} {g n cap : Nat} (h : EvOwns w B (.slice (some ⟨g, 0, none⟩) n cap) l) {i : Nat} {e : Ev} (hi : l[i]? = some e) : w.cell? ⟨g, i * 14, none⟩ = some (.int .i64 e.kind) ∧ w.cell? ⟨g, i * 14 + 1, none⟩ = some (.int .i64 e.session) ∧ w.cell? ⟨g, i * 14 + 2, none⟩ = some (.int .i64 e.window) ∧ w.cell? ⟨g, i * 14 + 3, none⟩ = some (.int .i64 e.pane) ∧ w.cell? ⟨g, i * 14 + 4, none⟩ = some (.int .i64 e.index) ∧ w.cell? ⟨g, i * 14 + 5, none⟩ = some (.int .i64 e.offset) ∧ w.cell? ⟨g, i * 14 + 6, none⟩ = some (.int .i64 e.tick) ∧ w.cell? ⟨g, i * 14 + 7, none⟩ = some (.int .i64 e.number) ∧ w.cell? ⟨g, i * 14 + 8, none⟩ = some (.int .i64 e.flag) ∧ w.cell? ⟨g, i * 14 + 9, none⟩ = some (.string e.name) ∧ w.cell? ⟨g, i * 14 + 10, none⟩ = some (.string e.text) ∧ w.cell? ⟨g, i * 14 + 11, none⟩ = some (.string e.layout) ∧ w.cell? ⟨g, i * 14 + 12, none⟩ = some (.string e.visible) ∧ w.cell? ⟨g, i * 14 + 13, none⟩ = some (.bool e.zoom) :=
  ⟨h.cell hi 0 (by decide), h.cell hi 1 (by decide), h.cell hi 2 (by decide), h.cell hi 3 (by decide), h.cell hi 4 (by decide), h.cell hi 5 (by decide), h.cell hi 6 (by decide), h.cell hi 7 (by decide), h.cell hi 8 (by decide), h.cell hi 9 (by decide), h.cell hi 10 (by decide), h.cell hi 11 (by decide), h.cell hi 12 (by decide), h.cell hi 13 (by decide)⟩

/-- The first i of two lists are the same. -/
def Agree (a b : List Ev) (i : Nat) : Prop := ∀ j, j < i → a[j]? = b[j]?
theorem Agree.all {a b : List Ev} {n : Nat} (ha : a.length = n) (hb : b.length = n) (h : Agree a b n) : a = b := by
  apply List.ext_getElem?
  intro j
  by_cases hj : j < n
  · exact h j hj
  · rw [List.getElem?_eq_none (by omega), List.getElem?_eq_none (by omega)]

end Go.Proofs.YtlgkdnmhoboinaaGreatDoor

namespace Go.Proofs.YtlgkdnmhoboinaaGreatDoor
open Go.RowKit
set_option linter.unusedVariables false

set_option maxRecDepth 20000 in
set_option maxHeartbeats 2000000 in
theorem same_yes (l : List Ev) (B B' g cap g' cap' : Nat) (hn : 1 ≤ l.length) (hm : l.length ≤ 16777216) (w : World) (h1 : EvOwns w B (.slice (some ⟨g, 0, none⟩) l.length cap) l) (h2 : EvOwns w B' (.slice (some ⟨g', 0, none⟩) l.length cap') l) :
    Calls Tryz.prog 13 #[.slice (some ⟨g, 0, none⟩) l.length cap, .slice (some ⟨g', 0, none⟩) l.length cap'] w fun e w' => e = .returned (.bool true) ∧ Below w.heap.size w w' := by
  have H1 : Hid (EvOwns w B (.slice (some ⟨g, 0, none⟩) l.length cap) l) := h1
  have H2 : Hid (EvOwns w B' (.slice (some ⟨g', 0, none⟩) l.length cap') l) := h2
  obtain ⟨n, hln⟩ : ∃ n, l.length = n := ⟨_, rfl⟩
  have HL : Hid (l.length = n) := hln
  rw [hln] at hn hm H1 H2 ⊢
  clear h1 h2 hln
  go_enter Tryz.func13, Tryz.ntmps13
  go_wp2
  go_loopw [5] (fun v wr => ∃ i : Nat, i ≤ n ∧ v = .int .i64 i ∧ Below w.heap.size w wr) (fun v _ => n - (intOf v).toNat)
  case atStart => exact ⟨0, Nat.zero_le _, rfl, Below.refl _ _⟩
  case round =>
    obtain ⟨i, hi, rfl, hb⟩ := hrel
    have HB : Hid (Below w.heap.size w wr) := hb
    clear hb
    by_cases hlt : i < n
    · obtain ⟨ev, hev⟩ : ∃ e, l[i]? = some e := ⟨_, List.getElem?_eq_getElem (by rw [HL.out]; exact hlt)⟩
      have hc1 : wr.cell? ⟨g, i * 14, none⟩ = some (.int .i64 ev.kind) ∧ wr.cell? ⟨g, i * 14 + 1, none⟩ = some (.int .i64 ev.session) ∧ wr.cell? ⟨g, i * 14 + 2, none⟩ = some (.int .i64 ev.window) ∧ wr.cell? ⟨g, i * 14 + 3, none⟩ = some (.int .i64 ev.pane) ∧ wr.cell? ⟨g, i * 14 + 4, none⟩ = some (.int .i64 ev.index) ∧ wr.cell? ⟨g, i * 14 + 5, none⟩ = some (.int .i64 ev.offset) ∧ wr.cell? ⟨g, i * 14 + 6, none⟩ = some (.int .i64 ev.tick) ∧ wr.cell? ⟨g, i * 14 + 7, none⟩ = some (.int .i64 ev.number) ∧ wr.cell? ⟨g, i * 14 + 8, none⟩ = some (.int .i64 ev.flag) ∧ wr.cell? ⟨g, i * 14 + 9, none⟩ = some (.string ev.name) ∧ wr.cell? ⟨g, i * 14 + 10, none⟩ = some (.string ev.text) ∧ wr.cell? ⟨g, i * 14 + 11, none⟩ = some (.string ev.layout) ∧ wr.cell? ⟨g, i * 14 + 12, none⟩ = some (.string ev.visible) ∧ wr.cell? ⟨g, i * 14 + 13, none⟩ = some (.bool ev.zoom) := (H1.out.below HB.out).cells14 hev
      have hc2 : wr.cell? ⟨g', i * 14, none⟩ = some (.int .i64 ev.kind) ∧ wr.cell? ⟨g', i * 14 + 1, none⟩ = some (.int .i64 ev.session) ∧ wr.cell? ⟨g', i * 14 + 2, none⟩ = some (.int .i64 ev.window) ∧ wr.cell? ⟨g', i * 14 + 3, none⟩ = some (.int .i64 ev.pane) ∧ wr.cell? ⟨g', i * 14 + 4, none⟩ = some (.int .i64 ev.index) ∧ wr.cell? ⟨g', i * 14 + 5, none⟩ = some (.int .i64 ev.offset) ∧ wr.cell? ⟨g', i * 14 + 6, none⟩ = some (.int .i64 ev.tick) ∧ wr.cell? ⟨g', i * 14 + 7, none⟩ = some (.int .i64 ev.number) ∧ wr.cell? ⟨g', i * 14 + 8, none⟩ = some (.int .i64 ev.flag) ∧ wr.cell? ⟨g', i * 14 + 9, none⟩ = some (.string ev.name) ∧ wr.cell? ⟨g', i * 14 + 10, none⟩ = some (.string ev.text) ∧ wr.cell? ⟨g', i * 14 + 11, none⟩ = some (.string ev.layout) ∧ wr.cell? ⟨g', i * 14 + 12, none⟩ = some (.string ev.visible) ∧ wr.cell? ⟨g', i * 14 + 13, none⟩ = some (.bool ev.zoom) := (H2.out.below HB.out).cells14 hev
      obtain ⟨q0, q1, q2, q3, q4, q5, q6, q7, q8, q9, q10, q11, q12, q13⟩ := hc1
      obtain ⟨p0, p1, p2, p3, p4, p5, p6, p7, p8, p9, p10, p11, p12, p13⟩ := hc2
      have hEq : ∀ W : World, (Op.equalIn 10000 28 (.agg #[.int .i64 ev.kind, .int .i64 ev.session, .int .i64 ev.window, .int .i64 ev.pane, .int .i64 ev.index, .int .i64 ev.offset, .int .i64 ev.tick, .int .i64 ev.number, .int .i64 ev.flag, .string ev.name, .string ev.text, .string ev.layout, .string ev.visible, .bool ev.zoom]) (.agg #[.int .i64 ev.kind, .int .i64 ev.session, .int .i64 ev.window, .int .i64 ev.pane, .int .i64 ev.index, .int .i64 ev.offset, .int .i64 ev.tick, .int .i64 ev.number, .int .i64 ev.flag, .string ev.name, .string ev.text, .string ev.layout, .string ev.visible, .bool ev.zoom])).run Tryz.prog W = .ok true W := fun W => by
        have := eqEv ev ev W
        rw [(evEq_iff ev ev).2 rfl] at this
        exact this
      clear hev
      go_wp2
      go_region_held3 (fun W' => W'.cell? ⟨g, i * 14, none⟩ = some (.int .i64 ev.kind) ∧ W'.cell? ⟨g, i * 14 + 1, none⟩ = some (.int .i64 ev.session) ∧ W'.cell? ⟨g, i * 14 + 2, none⟩ = some (.int .i64 ev.window) ∧ W'.cell? ⟨g, i * 14 + 3, none⟩ = some (.int .i64 ev.pane) ∧ W'.cell? ⟨g, i * 14 + 4, none⟩ = some (.int .i64 ev.index) ∧ W'.cell? ⟨g, i * 14 + 5, none⟩ = some (.int .i64 ev.offset) ∧ W'.cell? ⟨g, i * 14 + 6, none⟩ = some (.int .i64 ev.tick) ∧ W'.cell? ⟨g, i * 14 + 7, none⟩ = some (.int .i64 ev.number) ∧ W'.cell? ⟨g, i * 14 + 8, none⟩ = some (.int .i64 ev.flag) ∧ W'.cell? ⟨g, i * 14 + 9, none⟩ = some (.string ev.name) ∧ W'.cell? ⟨g, i * 14 + 10, none⟩ = some (.string ev.text) ∧ W'.cell? ⟨g, i * 14 + 11, none⟩ = some (.string ev.layout) ∧ W'.cell? ⟨g, i * 14 + 12, none⟩ = some (.string ev.visible) ∧ W'.cell? ⟨g, i * 14 + 13, none⟩ = some (.bool ev.zoom) ∧ W'.cell? ⟨g', i * 14, none⟩ = some (.int .i64 ev.kind) ∧ W'.cell? ⟨g', i * 14 + 1, none⟩ = some (.int .i64 ev.session) ∧ W'.cell? ⟨g', i * 14 + 2, none⟩ = some (.int .i64 ev.window) ∧ W'.cell? ⟨g', i * 14 + 3, none⟩ = some (.int .i64 ev.pane) ∧ W'.cell? ⟨g', i * 14 + 4, none⟩ = some (.int .i64 ev.index) ∧ W'.cell? ⟨g', i * 14 + 5, none⟩ = some (.int .i64 ev.offset) ∧ W'.cell? ⟨g', i * 14 + 6, none⟩ = some (.int .i64 ev.tick) ∧ W'.cell? ⟨g', i * 14 + 7, none⟩ = some (.int .i64 ev.number) ∧ W'.cell? ⟨g', i * 14 + 8, none⟩ = some (.int .i64 ev.flag) ∧ W'.cell? ⟨g', i * 14 + 9, none⟩ = some (.string ev.name) ∧ W'.cell? ⟨g', i * 14 + 10, none⟩ = some (.string ev.text) ∧ W'.cell? ⟨g', i * 14 + 11, none⟩ = some (.string ev.layout) ∧ W'.cell? ⟨g', i * 14 + 12, none⟩ = some (.string ev.visible) ∧ W'.cell? ⟨g', i * 14 + 13, none⟩ = some (.bool ev.zoom)) (go_keep) (fail)
      go_wp2
      go_roundw
      case rel => exact ⟨i + 1, by omega, by go_num, HB.out.drew⟩
      case measure => simp [intOf]; omega
    · go_wp2
      go_ret
      exact ⟨rfl, HB.out⟩

theorem same_nil (w : World) : Calls Tryz.prog 13 #[.slice none 0 0, .slice none 0 0] w fun e w' => e = .returned (.bool true) ∧ Below w.heap.size w w' := by
  go_enter Tryz.func13, Tryz.ntmps13
  go_wp2
  go_loopw [5] (fun v wr => v = .int .i64 0 ∧ w = wr) (fun _ _ => 0)
  case atStart => exact ⟨rfl, rfl⟩
  case round =>
    obtain ⟨rfl, rfl⟩ := hrel
    go_wp2
    go_ret
    exact ⟨rfl, Below.refl _ _⟩

end Go.Proofs.YtlgkdnmhoboinaaGreatDoor

namespace Go.Proofs.YtlgkdnmhoboinaaGreatDoor
open Go.RowKit
set_option linter.unusedVariables false

theorem same_short (v v' : Value) (hv : v = .slice none 0 0 ∨ ∃ g cap, v = .slice (some ⟨g, 0, none⟩) 0 cap) (hv' : v' = .slice none 0 0 ∨ ∃ g cap, v' = .slice (some ⟨g, 0, none⟩) 0 cap) (w : World) :
    Calls Tryz.prog 13 #[v, v'] w fun e w' => e = .returned (.bool true) ∧ Below w.heap.size w w' := by
  rcases hv with rfl | ⟨g, cap, rfl⟩ <;> rcases hv' with rfl | ⟨g', cap', rfl⟩
  all_goals
    go_enter Tryz.func13, Tryz.ntmps13
    go_wp2
    go_loopw [5] (fun v wr => v = .int .i64 0 ∧ w = wr) (fun _ _ => 0)
    case atStart => exact ⟨rfl, rfl⟩
    case round =>
      obtain ⟨rfl, rfl⟩ := hrel
      go_wp2
      go_ret
      exact ⟨rfl, Below.refl _ _⟩

theorem same_any (l : List Ev) (hm : l.length ≤ 16777216) (B B' : Nat) (v v' : Value) (w : World) (h1 : EvOwns w B v l) (h2 : EvOwns w B' v' l) :
    Calls Tryz.prog 13 #[v, v'] w fun e w' => e = .returned (.bool true) ∧ Below w.heap.size w w' := by
  by_cases hl : l.length = 0
  · refine same_short v v' ?_ ?_ w
    · rcases h1.shape with ⟨h, _⟩ | ⟨g, cap, h, _⟩
      · exact .inl h
      · exact .inr ⟨g, cap, by rw [h, hl]⟩
    · rcases h2.shape with ⟨h, _⟩ | ⟨g, cap, h, _⟩
      · exact .inl h
      · exact .inr ⟨g, cap, by rw [h, hl]⟩
  · rcases h1.shape with ⟨_, h⟩ | ⟨g, cap, h, _⟩
    · rw [h] at hl; exact absurd rfl hl
    · rcases h2.shape with ⟨_, h'⟩ | ⟨g', cap', h', _⟩
      · rw [h'] at hl; exact absurd rfl hl
      · subst h h'
        exact same_yes l B B' g cap g' cap' (by omega) hm w h1 h2

theorem linesS_rest : ∀ (n : Nat) (l : List UInt8), l.length ≤ n → (linesS l).2.length ≤ l.length
  | n, l, h => by
    by_cases hm : (10 : UInt8) ∈ l
    · have hl := rest10 l hm
      rw [linesS_yes hm]
      cases n with
      | zero => omega
      | succ n =>
        have := linesS_rest n ((l.dropWhile (· != 10)).drop 1) (by omega)
        show (linesS _).2.length ≤ _
        omega
    · rw [linesS_no hm]; exact Nat.le_refl _

theorem evCells_append (a b : List Ev) : evCells (a ++ b) = evCells a ++ evCells b := by unfold evCells; simp
theorem evCells_one (l : List Ev) : ∀ u ∈ evCells l, u.oneCell' = true := by
  intro u hu
  unfold evCells at hu
  obtain ⟨e, _, hu⟩ := List.mem_flatMap.1 hu
  have hu' : u ∈ [Value.int .i64 e.kind, .int .i64 e.session, .int .i64 e.window, .int .i64 e.pane, .int .i64 e.index, .int .i64 e.offset, .int .i64 e.tick, .int .i64 e.number, .int .i64 e.flag, .string e.name, .string e.text, .string e.layout, .string e.visible, .bool e.zoom] := hu
  simp only [List.mem_cons, List.not_mem_nil, or_false] at hu'
  rcases hu' with rfl | rfl | rfl | rfl | rfl | rfl | rfl | rfl | rfl | rfl | rfl | rfl | rfl | rfl <;> rfl

/-- A whole list of events appended to what is owned. -/
theorem wpList_append_evs {ops : Array Oper} {rest : List Oper} {o : Oper} {a : Act} {Q : Exit → Act → World → Prop} (w : World) (hgd : o.guard = none) (s x : Operand)
    (ho : o.op = .call { callee := .builtin .append, args := #[s, x], argTypes := #[22, 22] })
    (B : Nat) (v : Value) (l : List Ev) (hs : a.eval s = v) (hown : EvOwns w B v l) (B' g n cap : Nat) (l' : List Ev) (hn : n = l'.length) (hx : a.eval x = .slice (some ⟨g, 0, none⟩) n cap) (hown' : EvOwns w B' (.slice (some ⟨g, 0, none⟩) n cap) l')
    (hlen : l.length + l'.length ≤ 16777216) (hB : B ≤ w.heap.size)
    (h : ∀ v' w', EvOwns w' B v' (l ++ l') → w.grownBy w' v.ownBlock → wpList Tryz.prog ops Q rest (a.put o.dst v') w') : wpList Tryz.prog ops Q (o :: rest) a w := by
  subst hn
  obtain ⟨i0, hi, hz0, hz1, hz2⟩ := info_parts infoEv
  refine wpList_append_own _ hgd s x 22 ho B 28 i0 (.agg (Ev.zero 0).vals) 14 144 Tryz.underlying22 hi hz0 hz1 hz2 rfl (by decide) v l.length (evCells l) hs hown ⟨g, 0, none⟩ l'.length cap (evCells l') hx (evCells_length l') (World.ownsRow.cells hown' rfl) (evCells_one l') ?_ ?_ hB ?_
  · unfold maxLen; omega
  · omega
  · intro v' w' h2 h3 _
    refine h v' w' ?_ h3
    unfold EvOwns
    rw [evCells_append, List.length_append]
    exact h2

/-- The same, of a list that may be nil. -/
theorem wpList_append_two {ops : Array Oper} {rest : List Oper} {o : Oper} {a : Act} {Q : Exit → Act → World → Prop} (w : World) (hgd : o.guard = none) (s x : Operand)
    (ho : o.op = .call { callee := .builtin .append, args := #[s, x], argTypes := #[22, 22] })
    (B : Nat) (v : Value) (l : List Ev) (hs : a.eval s = v) (hown : EvOwns w B v l) (B' : Nat) (u : Value) (l' : List Ev) (hx : a.eval x = u) (hown' : EvOwns w B' u l')
    (hlen : l.length + l'.length ≤ 16777216) (hB : B ≤ w.heap.size)
    (h : ∀ v' w', EvOwns w' B v' (l ++ l') → w.grownBy w' v.ownBlock → wpList Tryz.prog ops Q rest (a.put o.dst v') w') : wpList Tryz.prog ops Q (o :: rest) a w := by
  rcases hown'.shape with ⟨rfl, rfl⟩ | ⟨g, cap, rfl, _⟩
  · obtain ⟨i0, hi, hz0, hz1, hz2⟩ := info_parts infoEv
    refine wpList_append_own_none hgd s x 22 ho B 28 i0 14 Tryz.underlying22 hi v l.length (evCells l) hs hown hx ?_
    exact h v w (by rw [List.append_nil]; exact hown) ⟨rfl, rfl, rfl, Nat.le_refl _, fun _ _ _ => rfl⟩
  · exact wpList_append_evs w hgd s x ho B v l hs hown B' g _ cap l' rfl hx hown' hlen hB h

theorem EvOwns.grown {w w' : World} {B : Nat} {v : Value} {l : List Ev} {r : Option Nat} (h : EvOwns w B v l) (hg : w.grownBy w' r) (hr : ∀ k, v.ownBlock = some k → r ≠ some k) : EvOwns w' B v l :=
  World.ownsRow.kept h hg (by
    cases hv : v.ownBlock with
    | none => exact .inl rfl
    | some k => exact .inr (fun e => hr k hv e.symm))
theorem EvOwns.base {w : World} {B : Nat} {v : Value} {l : List Ev} (h : EvOwns w B v l) : ∀ k, v.ownBlock = some k → B ≤ k ∧ k < w.heap.size := fun k hk => World.ownsRow.lt h k hk

end Go.Proofs.YtlgkdnmhoboinaaGreatDoor

namespace Go.Proofs.YtlgkdnmhoboinaaGreatDoor
open Go.RowKit
set_option linter.unusedVariables false

theorem enc_len {e : Ev} {l : List UInt8} (hf : e.Fits) (h : encS e = some l) : l.length ≤ lim := by
  rcases encS_cases e with h0 | ⟨k, h1, h2, _, _, h4⟩
  · rw [h0] at h; cases h
  · rw [h4] at h
    cases h
    exact write_length k h1 h2 e hf

end Go.Proofs.YtlgkdnmhoboinaaGreatDoor

namespace Go.Proofs.YtlgkdnmhoboinaaGreatDoor
open Go.RowKit
set_option linter.unusedVariables false

theorem writeString_k (B b : Nat) (bs : List Value) (s : ByteArray) (w : World) (h : Lib.IsBuilderF 44 5 B b bs w) (hlen : bs.length + s.size ≤ 140737488355328) (hBw : B ≤ w.heap.size) :
    Calls Tryz.prog 21 #[.pointer (some ⟨b, 0, none⟩), .string s] w fun e w' => e = .returned (.tuple #[.int .i64 s.size, .nilIface]) ∧ (Lib.BuilderAtF 44 5 B b (.pointer (some ⟨b, 0, none⟩)) (bs ++ Lib.strCells s) w' ∧ Below B w w' ∧ Lib.OthersKept 5 (some b) w w') :=
  Any.Builder_WriteString_k (ρ := Tryz.lays156_ren) { Tryz.lays156 with } Tryz.Builder_Extra_156 B b bs s w h hlen hBw

/-- The text of a list: its events' lines, each with a line feed; none where one of them has none. -/
noncomputable def textS : List Ev → Option (List UInt8)
  | [] => some []
  | e :: es => match encS e with
    | none => none
    | some l => (textS es).map (l ++ 10 :: ·)

/-- The events of a list lie one behind the other, from a cell on. -/
def EvRow (w : World) (b o : Nat) (l : List Ev) : Prop := ∀ j u, (evCells l)[j]? = some u → w.cell? ⟨b, o + j, none⟩ = some u
theorem EvRow.below {w w' : World} {b o : Nat} {l : List Ev} (h : EvRow w b o l) (hb : b < w.heap.size) (hB : Below w.heap.size w w') : EvRow w' b o l := fun j u hu => by
  rw [hB.cell (p := ⟨b, o + j, none⟩) hb]; exact h j u hu
theorem EvRow.of_owns {w : World} {B g n cap : Nat} {l : List Ev} (hn : n = l.length) (h : EvOwns w B (.slice (some ⟨g, 0, none⟩) n cap) l) : EvRow w g 0 l := by
  subst hn
  intro j u hu
  have := World.ownsRow.cells h rfl j u hu
  rw [Nat.zero_add]
  rw [show (⟨g, 0, none⟩ : Addr).add j = ⟨g, j, none⟩ by unfold Addr.add; split <;> simp_all] at this
  exact this

/-- The cells of one of them. -/
theorem EvRow.at {w : World} {b o : Nat} {l : List Ev} (h : EvRow w b o l) {i : Nat} {ev : Ev} (hi : l[i]? = some ev) : w.cell? ⟨b, o + i * 14, none⟩ = some (.int .i64 ev.kind) ∧ w.cell? ⟨b, o + i * 14 + 1, none⟩ = some (.int .i64 ev.session) ∧ w.cell? ⟨b, o + i * 14 + 2, none⟩ = some (.int .i64 ev.window) ∧ w.cell? ⟨b, o + i * 14 + 3, none⟩ = some (.int .i64 ev.pane) ∧ w.cell? ⟨b, o + i * 14 + 4, none⟩ = some (.int .i64 ev.index) ∧ w.cell? ⟨b, o + i * 14 + 5, none⟩ = some (.int .i64 ev.offset) ∧ w.cell? ⟨b, o + i * 14 + 6, none⟩ = some (.int .i64 ev.tick) ∧ w.cell? ⟨b, o + i * 14 + 7, none⟩ = some (.int .i64 ev.number) ∧ w.cell? ⟨b, o + i * 14 + 8, none⟩ = some (.int .i64 ev.flag) ∧ w.cell? ⟨b, o + i * 14 + 9, none⟩ = some (.string ev.name) ∧ w.cell? ⟨b, o + i * 14 + 10, none⟩ = some (.string ev.text) ∧ w.cell? ⟨b, o + i * 14 + 11, none⟩ = some (.string ev.layout) ∧ w.cell? ⟨b, o + i * 14 + 12, none⟩ = some (.string ev.visible) ∧ w.cell? ⟨b, o + i * 14 + 13, none⟩ = some (.bool ev.zoom) := by
  have key : ∀ j u, j < 14 → ev.vals[j]? = some u → w.cell? ⟨b, o + i * 14 + j, none⟩ = some u := fun j u hj hu => by
    have := h (i * 14 + j) u ((evCells_at l i j ev hi hj).trans hu)
    rwa [← Nat.add_assoc] at this
  exact ⟨key 0 _ (by decide) rfl, key 1 _ (by decide) rfl, key 2 _ (by decide) rfl, key 3 _ (by decide) rfl, key 4 _ (by decide) rfl, key 5 _ (by decide) rfl, key 6 _ (by decide) rfl, key 7 _ (by decide) rfl, key 8 _ (by decide) rfl, key 9 _ (by decide) rfl, key 10 _ (by decide) rfl, key 11 _ (by decide) rfl, key 12 _ (by decide) rfl, key 13 _ (by decide) rfl⟩

theorem builder_below {T e : TypeId} {B b : Nat} {bs : List Value} {w w' : World} (h : Lib.IsBuilderF T e B b bs w) (hb : Below w.heap.size w w') : Lib.IsBuilderF T e B b bs w' := by
  have key : ∀ p, Lib.BuilderAtF T e B b p bs w → Lib.BuilderAtF T e B b p bs w' := fun p h => by
    have hlt := h.lt
    obtain ⟨hB, v, hbk, hown, hne⟩ := h
    exact ⟨hB, v, (hb.block b hlt).trans hbk, hown.kept (row := none) ⟨hb.os, hb.tape, hb.output, hb.size, fun k hk _ => hb.block k hk⟩ (by cases v.ownBlock <;> simp), hne⟩
  exact h.imp (key _) (key _)

/-- What Text answers. -/
def textOut : Option (List UInt8) → Value
  | none => .tuple #[.string ⟨#[]⟩, .int .i64 30]
  | some t => .tuple #[.string (str t), .int .i64 0]

theorem bytes_line (done line : List UInt8) : (Lib.byteCells done ++ Lib.strCells (str line)) ++ Lib.strCells ⟨#[10]⟩ = Lib.byteCells (done ++ (line ++ [10])) := by
  rw [show Lib.strCells (str line) = Lib.byteCells line from rfl, show Lib.strCells ⟨#[10]⟩ = Lib.byteCells [10] from rfl]
  simp [Lib.byteCells]

theorem textS_step {l : List Ev} {i : Nat} {ev : Ev} {done line : List UInt8} (hi : l[i]? = some ev) (he : encS ev = some line) (h : textS l = (textS (l.drop i)).map (done ++ ·)) : textS l = (textS (l.drop (i + 1))).map ((done ++ (line ++ [10])) ++ ·) := by
  rw [h, List.drop_eq_getElem_cons (List.getElem?_eq_some_iff.1 hi).1, (List.getElem?_eq_some_iff.1 hi).2]
  simp only [textS, he, Option.map_map]
  congr 1
  funext t
  simp
theorem textS_stop {l : List Ev} {i : Nat} {ev : Ev} {done : List UInt8} (hi : l[i]? = some ev) (he : encS ev = none) (h : textS l = (textS (l.drop i)).map (done ++ ·)) : textS l = none := by
  rw [h, List.drop_eq_getElem_cons (List.getElem?_eq_some_iff.1 hi).1, (List.getElem?_eq_some_iff.1 hi).2]
  simp only [textS, he, Option.map_none]

set_option maxRecDepth 20000 in
set_option maxHeartbeats 4000000 in
theorem text_row (l : List Ev) (hfit : ∀ e ∈ l, e.Fits) (hm : l.length ≤ 1048576) (b o c : Nat) (w : World) (hE : Env w) (hb : b < w.heap.size) (hrow : EvRow w b o l) (hn : 1 ≤ l.length) :
    Calls Tryz.prog 9 #[.slice (some ⟨b, o, none⟩) l.length c] w fun e w' => e = .returned (textOut (textS l)) ∧ Below w.heap.size w w' := by
  obtain ⟨n, hln⟩ : ∃ n, l.length = n := ⟨_, rfl⟩
  have HL : Hid (l.length = n) := hln
  rw [hln] at hn hm ⊢
  clear hln
  have HR : Hid (EvRow w b o l) := hrow
  have HE : Hid (∀ W, Below w.heap.size w W → Env W) := fun W h => hE.below h
  have HF : Hid (∀ e ∈ l, e.Fits) := hfit
  obtain ⟨out, hout⟩ : ∃ x, textOut (textS l) = x := ⟨_, rfl⟩
  have HO : Hid (textOut (textS l) = out) := hout
  rw [hout]
  clear hrow hE hfit hout
  go_enter Tryz.func9, Tryz.ntmps9
  go_wp2
  go_loopw [11] (fun v wr => ∃ (i : Nat) (done : List UInt8), i ≤ n ∧ v = .int .i64 i ∧ textS l = (textS (l.drop i)).map (done ++ ·) ∧ done.length ≤ i * 67108865 ∧ Lib.IsBuilderF 44 5 w.heap.size w.heap.size (Lib.byteCells done) wr ∧ Below w.heap.size w wr) (fun v _ => n - (intOf v).toNat)
  case atStart => exact ⟨0, [], Nat.zero_le _, rfl, by simp, by simp, Lib.IsBuilderF.of (Lib.fresh_isBuilder _ _ w), below1 _ _⟩
  case round =>
    obtain ⟨i, done, hi, rfl, hsp, hdl, hbd, hbl⟩ := hrel
    have HB : Hid (Below w.heap.size w wr) := hbl
    have HS : Hid (textS l = (textS (l.drop i)).map (done ++ ·)) := hsp
    have HD : Hid (Lib.IsBuilderF 44 5 w.heap.size w.heap.size (Lib.byteCells done) wr) := hbd
    have HN : Hid (done.length ≤ i * 67108865) := hdl
    clear hbl hsp hbd hdl
    by_cases hlt : i < n
    · obtain ⟨ev, hev⟩ : ∃ e, l[i]? = some e := ⟨_, List.getElem?_eq_getElem (by rw [HL.out]; exact hlt)⟩
      have HV : Hid (l[i]? = some ev) := hev
      have HFe : Hid ev.Fits := HF.out ev (List.mem_of_getElem? hev)
      have hc : wr.cell? ⟨b, o + i * 14, none⟩ = some (.int .i64 ev.kind) ∧ wr.cell? ⟨b, o + i * 14 + 1, none⟩ = some (.int .i64 ev.session) ∧ wr.cell? ⟨b, o + i * 14 + 2, none⟩ = some (.int .i64 ev.window) ∧ wr.cell? ⟨b, o + i * 14 + 3, none⟩ = some (.int .i64 ev.pane) ∧ wr.cell? ⟨b, o + i * 14 + 4, none⟩ = some (.int .i64 ev.index) ∧ wr.cell? ⟨b, o + i * 14 + 5, none⟩ = some (.int .i64 ev.offset) ∧ wr.cell? ⟨b, o + i * 14 + 6, none⟩ = some (.int .i64 ev.tick) ∧ wr.cell? ⟨b, o + i * 14 + 7, none⟩ = some (.int .i64 ev.number) ∧ wr.cell? ⟨b, o + i * 14 + 8, none⟩ = some (.int .i64 ev.flag) ∧ wr.cell? ⟨b, o + i * 14 + 9, none⟩ = some (.string ev.name) ∧ wr.cell? ⟨b, o + i * 14 + 10, none⟩ = some (.string ev.text) ∧ wr.cell? ⟨b, o + i * 14 + 11, none⟩ = some (.string ev.layout) ∧ wr.cell? ⟨b, o + i * 14 + 12, none⟩ = some (.string ev.visible) ∧ wr.cell? ⟨b, o + i * 14 + 13, none⟩ = some (.bool ev.zoom) := EvRow.at (fun j u hu => by rw [HB.out.cell (p := ⟨b, o + j, none⟩) hb]; exact HR.out j u hu) hev
      obtain ⟨q0, q1, q2, q3, q4, q5, q6, q7, q8, q9, q10, q11, q12, q13⟩ := hc
      clear hev
      have HB0 : Hid (Below w.heap.size w (wr.alloc (.cells #[.int .i64 ev.kind, .int .i64 ev.session, .int .i64 ev.window, .int .i64 ev.pane, .int .i64 ev.index, .int .i64 ev.offset, .int .i64 ev.tick, .int .i64 ev.number, .int .i64 ev.flag, .string ev.name, .string ev.text, .string ev.layout, .string ev.visible, .bool ev.zoom] 28))) := HB.out.alloc HB.out.size _
      have HD0 : Hid (Lib.IsBuilderF 44 5 w.heap.size w.heap.size (Lib.byteCells done) (wr.alloc (.cells #[.int .i64 ev.kind, .int .i64 ev.session, .int .i64 ev.window, .int .i64 ev.pane, .int .i64 ev.index, .int .i64 ev.offset, .int .i64 ev.tick, .int .i64 ev.number, .int .i64 ev.flag, .string ev.name, .string ev.text, .string ev.layout, .string ev.visible, .bool ev.zoom] 28))) := HD.out.alloc _
      cases henc : encS ev with
      | none =>
        have HEn : Hid (∀ W, Env W → Calls Tryz.prog 10 #[.agg #[.int .i64 ev.kind, .int .i64 ev.session, .int .i64 ev.window, .int .i64 ev.pane, .int .i64 ev.index, .int .i64 ev.offset, .int .i64 ev.tick, .int .i64 ev.number, .int .i64 ev.flag, .string ev.name, .string ev.text, .string ev.layout, .string ev.visible, .bool ev.zoom]] W fun e w' => e = .returned (.tuple #[.string ⟨#[]⟩, .int .i64 30]) ∧ Below W.heap.size W w') := fun W hW => by
          have := encode_any ev HFe.out W hW
          rw [henc] at this
          exact this
        have HT : Hid (out = .tuple #[.string ⟨#[]⟩, .int .i64 30]) := by
          have := HO.out
          rw [textS_stop HV.out henc HS.out] at this
          exact this.symm
        clear henc
        go_wp2_with fail
        refine (HEn.out _ (HE.out _ HB0.out)).mono ?_
        rintro e w1 ⟨rfl, hb1⟩
        have HB1 : Hid (Below w.heap.size w w1) := below_step HB0.out hb1
        clear hb1 HEn HB0 HD0 HD HB
        go_wp2
        go_ret2
        exact ⟨by rw [HT.out]; rfl, HB1.out⟩
      | some line =>
        have hll : line.length ≤ 67108864 := enc_len HFe.out henc
        have HS1 : Hid (textS l = (textS (l.drop (i + 1))).map ((done ++ (line ++ [10])) ++ ·)) := textS_step HV.out henc HS.out
        have HEn : Hid (∀ W, Env W → Calls Tryz.prog 10 #[.agg #[.int .i64 ev.kind, .int .i64 ev.session, .int .i64 ev.window, .int .i64 ev.pane, .int .i64 ev.index, .int .i64 ev.offset, .int .i64 ev.tick, .int .i64 ev.number, .int .i64 ev.flag, .string ev.name, .string ev.text, .string ev.layout, .string ev.visible, .bool ev.zoom]] W fun e w' => e = .returned (.tuple #[.string (str line), .int .i64 0]) ∧ Below W.heap.size W w') := fun W hW => by
          have := encode_any ev HFe.out W hW
          rw [henc] at this
          exact this
        have HZ : Hid ((str line).size = line.length) := str_size _
        have HQ : Hid ((Lib.byteCells done ++ Lib.strCells (str line)) ++ Lib.strCells ⟨#[10]⟩ = Lib.byteCells (done ++ (line ++ [10]))) := bytes_line done line
        have HM : Hid ((done ++ (line ++ [10])).length ≤ (i + 1) * 67108865) := by
          have := HN.out
          show (done ++ (line ++ [10])).length ≤ (i + 1) * 67108865
          simp only [List.length_append, List.length_cons, List.length_nil]
          omega
        have HK1 : Hid ((Lib.byteCells done).length + (str line).size ≤ 140737488355328) := by
          have := HN.out
          rw [Lib.byteCells_length, HZ.out]
          show done.length + line.length ≤ 140737488355328
          omega
        have HK2 : Hid ((Lib.byteCells done ++ Lib.strCells (str line)).length + (⟨#[10]⟩ : ByteArray).size ≤ 140737488355328) := by
          have := HN.out
          rw [List.length_append, Lib.byteCells_length, Lib.strCells_length, HZ.out, show (⟨#[10]⟩ : ByteArray).size = 1 from rfl]
          show done.length + line.length + 1 ≤ 140737488355328
          omega
        clear henc hll HZ
        go_wp2_with fail
        refine (HEn.out _ (HE.out _ HB0.out)).mono ?_
        rintro e w1 ⟨rfl, hb1⟩
        have HB1 : Hid (Below w.heap.size w w1) := below_step HB0.out hb1
        have HD1 : Hid (Lib.IsBuilderF 44 5 w.heap.size w.heap.size (Lib.byteCells done) w1) := builder_below HD0.out hb1
        clear hb1 HEn HB0 HD0 HD HB
        go_wp2_with fail
        refine (writeString_k _ _ _ (str line) _ HD1.out HK1.out HB1.out.size).mono ?_
        rintro e w2 ⟨rfl, hat2, hb2, _⟩
        have HB2 : Hid (Below w.heap.size w w2) := HB1.out.trans hb2
        have HD2 : Hid (Lib.IsBuilderF 44 5 w.heap.size w.heap.size (Lib.byteCells done ++ Lib.strCells (str line)) w2) := Or.inr hat2
        clear hat2 hb2 HD1 HB1
        go_wp2_with fail
        refine (writeString_k _ _ _ ⟨#[10]⟩ _ HD2.out HK2.out HB2.out.size).mono ?_
        rintro e w3 ⟨rfl, hat3, hb3, _⟩
        have HB3 : Hid (Below w.heap.size w w3) := HB2.out.trans hb3
        have HD3 : Hid (Lib.IsBuilderF 44 5 w.heap.size w.heap.size (Lib.byteCells (done ++ (line ++ [10]))) w3) := by rw [← HQ.out]; exact Or.inr hat3
        clear hat3 hb3 HD2 HB2
        go_wp2
        go_roundw
        case rel => exact ⟨i + 1, done ++ (line ++ [10]), by omega, by go_num, HS1.out, HM.out, HD3.out, HB3.out⟩
        case measure => simp [intOf]; omega
    · have HT : Hid (out = .tuple #[.string (str done), .int .i64 0]) := by
        have h1 := HO.out
        rw [HS.out, List.drop_eq_nil_of_le (by rw [HL.out]; omega)] at h1
        simp only [textS, Option.map_some, List.append_nil, textOut] at h1
        exact h1.symm
      go_wp2_with fail
      refine (Tryz.Builder_String_any_k _ _ done _ HD.out HB.out.size).mono ?_
      rintro e w1 ⟨rfl, _, hb1, _⟩
      have HB1 : Hid (Below w.heap.size w w1) := HB.out.trans hb1
      clear hb1
      go_wp2
      go_ret2
      exact ⟨by rw [HT.out]; rfl, HB1.out⟩

end Go.Proofs.YtlgkdnmhoboinaaGreatDoor

namespace Go.Proofs.YtlgkdnmhoboinaaGreatDoor
open Go.RowKit
set_option linter.unusedVariables false

theorem take_next {α : Type} {l : List α} {i : Nat} {a : α} (h : l[i]? = some a) : l.take (i + 1) = l.take i ++ [a] := by
  rw [List.take_add_one, h]; rfl

/-- What 'same' answers. -/
def SamePost (p : Prop) (w : World) (e : Ending) (w' : World) : Prop := ∃ r : Bool, e = .returned (.bool r) ∧ (r = true ↔ p) ∧ Below w.heap.size w w'

theorem SamePost.no {p : Prop} {w w' : World} (hp : ¬ p) (hb : Below w.heap.size w w') : SamePost p w (.returned (.bool false)) w' := ⟨false, rfl, ⟨fun h => absurd h (by decide), fun h => absurd h hp⟩, hb⟩
theorem SamePost.yes {p : Prop} {w w' : World} (hp : p) (hb : Below w.heap.size w w') : SamePost p w (.returned (.bool true)) w' := ⟨true, rfl, ⟨fun _ => hp, fun _ => rfl⟩, hb⟩

set_option maxRecDepth 20000 in
set_option maxHeartbeats 4000000 in
theorem same_rows (l l' : List Ev) (hll : l.length = l'.length) (hn : 1 ≤ l.length) (hm : l.length ≤ 16777216) (b o c b' o' c' : Nat) (w : World) (hb : b < w.heap.size) (hb' : b' < w.heap.size) (h1 : EvRow w b o l) (h2 : EvRow w b' o' l') :
    Calls Tryz.prog 13 #[.slice (some ⟨b, o, none⟩) l.length c, .slice (some ⟨b', o', none⟩) l.length c'] w (SamePost (l = l') w) := by
  have H1 : Hid (EvRow w b o l) := h1
  have H2 : Hid (EvRow w b' o' l') := h2
  obtain ⟨n, hln⟩ : ∃ n, l.length = n := ⟨_, rfl⟩
  have HL : Hid (l.length = n) := hln
  have HL' : Hid (l'.length = n) := hll.symm.trans hln
  rw [hln] at hn hm ⊢
  clear h1 h2 hln hll
  go_enter Tryz.func13, Tryz.ntmps13
  go_wp2
  go_loopw [5] (fun v wr => ∃ i : Nat, i ≤ n ∧ v = .int .i64 i ∧ l.take i = l'.take i ∧ Below w.heap.size w wr) (fun v _ => n - (intOf v).toNat)
  case atStart => exact ⟨0, Nat.zero_le _, rfl, rfl, Below.refl _ _⟩
  case round =>
    obtain ⟨i, hi, rfl, htk, hbl⟩ := hrel
    have HB : Hid (Below w.heap.size w wr) := hbl
    have HT : Hid (l.take i = l'.take i) := htk
    clear hbl htk
    by_cases hlt : i < n
    · obtain ⟨ev, hev⟩ : ∃ e, l[i]? = some e := ⟨_, List.getElem?_eq_getElem (by rw [HL.out]; exact hlt)⟩
      obtain ⟨ev', hev'⟩ : ∃ e, l'[i]? = some e := ⟨_, List.getElem?_eq_getElem (by rw [HL'.out]; exact hlt)⟩
      have hc1 : wr.cell? ⟨b, o + i * 14, none⟩ = some (.int .i64 ev.kind) ∧ wr.cell? ⟨b, o + i * 14 + 1, none⟩ = some (.int .i64 ev.session) ∧ wr.cell? ⟨b, o + i * 14 + 2, none⟩ = some (.int .i64 ev.window) ∧ wr.cell? ⟨b, o + i * 14 + 3, none⟩ = some (.int .i64 ev.pane) ∧ wr.cell? ⟨b, o + i * 14 + 4, none⟩ = some (.int .i64 ev.index) ∧ wr.cell? ⟨b, o + i * 14 + 5, none⟩ = some (.int .i64 ev.offset) ∧ wr.cell? ⟨b, o + i * 14 + 6, none⟩ = some (.int .i64 ev.tick) ∧ wr.cell? ⟨b, o + i * 14 + 7, none⟩ = some (.int .i64 ev.number) ∧ wr.cell? ⟨b, o + i * 14 + 8, none⟩ = some (.int .i64 ev.flag) ∧ wr.cell? ⟨b, o + i * 14 + 9, none⟩ = some (.string ev.name) ∧ wr.cell? ⟨b, o + i * 14 + 10, none⟩ = some (.string ev.text) ∧ wr.cell? ⟨b, o + i * 14 + 11, none⟩ = some (.string ev.layout) ∧ wr.cell? ⟨b, o + i * 14 + 12, none⟩ = some (.string ev.visible) ∧ wr.cell? ⟨b, o + i * 14 + 13, none⟩ = some (.bool ev.zoom) := EvRow.at (fun j u hu => by rw [HB.out.cell (p := ⟨b, o + j, none⟩) hb]; exact H1.out j u hu) hev
      have hc2 : wr.cell? ⟨b', o' + i * 14, none⟩ = some (.int .i64 ev'.kind) ∧ wr.cell? ⟨b', o' + i * 14 + 1, none⟩ = some (.int .i64 ev'.session) ∧ wr.cell? ⟨b', o' + i * 14 + 2, none⟩ = some (.int .i64 ev'.window) ∧ wr.cell? ⟨b', o' + i * 14 + 3, none⟩ = some (.int .i64 ev'.pane) ∧ wr.cell? ⟨b', o' + i * 14 + 4, none⟩ = some (.int .i64 ev'.index) ∧ wr.cell? ⟨b', o' + i * 14 + 5, none⟩ = some (.int .i64 ev'.offset) ∧ wr.cell? ⟨b', o' + i * 14 + 6, none⟩ = some (.int .i64 ev'.tick) ∧ wr.cell? ⟨b', o' + i * 14 + 7, none⟩ = some (.int .i64 ev'.number) ∧ wr.cell? ⟨b', o' + i * 14 + 8, none⟩ = some (.int .i64 ev'.flag) ∧ wr.cell? ⟨b', o' + i * 14 + 9, none⟩ = some (.string ev'.name) ∧ wr.cell? ⟨b', o' + i * 14 + 10, none⟩ = some (.string ev'.text) ∧ wr.cell? ⟨b', o' + i * 14 + 11, none⟩ = some (.string ev'.layout) ∧ wr.cell? ⟨b', o' + i * 14 + 12, none⟩ = some (.string ev'.visible) ∧ wr.cell? ⟨b', o' + i * 14 + 13, none⟩ = some (.bool ev'.zoom) := EvRow.at (fun j u hu => by rw [HB.out.cell (p := ⟨b', o' + j, none⟩) hb']; exact H2.out j u hu) hev'
      obtain ⟨q0, q1, q2, q3, q4, q5, q6, q7, q8, q9, q10, q11, q12, q13⟩ := hc1
      obtain ⟨p0, p1, p2, p3, p4, p5, p6, p7, p8, p9, p10, p11, p12, p13⟩ := hc2
      have HV : Hid (l[i]? = some ev) := hev
      have HV' : Hid (l'[i]? = some ev') := hev'
      obtain ⟨r, hr⟩ : ∃ r, evEq ev ev' = r := ⟨_, rfl⟩
      have hEq : ∀ W : World, (Op.equalIn 10000 28 (.agg #[.int .i64 ev.kind, .int .i64 ev.session, .int .i64 ev.window, .int .i64 ev.pane, .int .i64 ev.index, .int .i64 ev.offset, .int .i64 ev.tick, .int .i64 ev.number, .int .i64 ev.flag, .string ev.name, .string ev.text, .string ev.layout, .string ev.visible, .bool ev.zoom]) (.agg #[.int .i64 ev'.kind, .int .i64 ev'.session, .int .i64 ev'.window, .int .i64 ev'.pane, .int .i64 ev'.index, .int .i64 ev'.offset, .int .i64 ev'.tick, .int .i64 ev'.number, .int .i64 ev'.flag, .string ev'.name, .string ev'.text, .string ev'.layout, .string ev'.visible, .bool ev'.zoom])).run Tryz.prog W = .ok r W := fun W => by
        have := eqEv ev ev' W
        rw [hr] at this
        exact this
      have HR : Hid ((r = false → ¬ ev = ev') ∧ (r = true → ev = ev')) := ⟨fun h e => absurd (hr.symm.trans ((evEq_iff ev ev').2 e)) (by rw [h]; decide), fun h => (evEq_iff ev ev').1 (hr.trans h)⟩
      clear hev hev' hr
      cases r
      · have HR' : Hid (¬ ev = ev') := HR.out.1 rfl
        clear HR
        go_wp2
        go_region_held3 (fun W' => W'.cell? ⟨b, o + i * 14, none⟩ = some (.int .i64 ev.kind) ∧ W'.cell? ⟨b, o + i * 14 + 1, none⟩ = some (.int .i64 ev.session) ∧ W'.cell? ⟨b, o + i * 14 + 2, none⟩ = some (.int .i64 ev.window) ∧ W'.cell? ⟨b, o + i * 14 + 3, none⟩ = some (.int .i64 ev.pane) ∧ W'.cell? ⟨b, o + i * 14 + 4, none⟩ = some (.int .i64 ev.index) ∧ W'.cell? ⟨b, o + i * 14 + 5, none⟩ = some (.int .i64 ev.offset) ∧ W'.cell? ⟨b, o + i * 14 + 6, none⟩ = some (.int .i64 ev.tick) ∧ W'.cell? ⟨b, o + i * 14 + 7, none⟩ = some (.int .i64 ev.number) ∧ W'.cell? ⟨b, o + i * 14 + 8, none⟩ = some (.int .i64 ev.flag) ∧ W'.cell? ⟨b, o + i * 14 + 9, none⟩ = some (.string ev.name) ∧ W'.cell? ⟨b, o + i * 14 + 10, none⟩ = some (.string ev.text) ∧ W'.cell? ⟨b, o + i * 14 + 11, none⟩ = some (.string ev.layout) ∧ W'.cell? ⟨b, o + i * 14 + 12, none⟩ = some (.string ev.visible) ∧ W'.cell? ⟨b, o + i * 14 + 13, none⟩ = some (.bool ev.zoom) ∧ W'.cell? ⟨b', o' + i * 14, none⟩ = some (.int .i64 ev'.kind) ∧ W'.cell? ⟨b', o' + i * 14 + 1, none⟩ = some (.int .i64 ev'.session) ∧ W'.cell? ⟨b', o' + i * 14 + 2, none⟩ = some (.int .i64 ev'.window) ∧ W'.cell? ⟨b', o' + i * 14 + 3, none⟩ = some (.int .i64 ev'.pane) ∧ W'.cell? ⟨b', o' + i * 14 + 4, none⟩ = some (.int .i64 ev'.index) ∧ W'.cell? ⟨b', o' + i * 14 + 5, none⟩ = some (.int .i64 ev'.offset) ∧ W'.cell? ⟨b', o' + i * 14 + 6, none⟩ = some (.int .i64 ev'.tick) ∧ W'.cell? ⟨b', o' + i * 14 + 7, none⟩ = some (.int .i64 ev'.number) ∧ W'.cell? ⟨b', o' + i * 14 + 8, none⟩ = some (.int .i64 ev'.flag) ∧ W'.cell? ⟨b', o' + i * 14 + 9, none⟩ = some (.string ev'.name) ∧ W'.cell? ⟨b', o' + i * 14 + 10, none⟩ = some (.string ev'.text) ∧ W'.cell? ⟨b', o' + i * 14 + 11, none⟩ = some (.string ev'.layout) ∧ W'.cell? ⟨b', o' + i * 14 + 12, none⟩ = some (.string ev'.visible) ∧ W'.cell? ⟨b', o' + i * 14 + 13, none⟩ = some (.bool ev'.zoom)) (go_keep) (fail)
        go_wp2
        go_ret
        refine SamePost.no (fun h => ?_) HB.out.drew
        have h3 := HV.out
        rw [h, HV'.out] at h3
        exact HR'.out (Option.some.inj h3).symm
      · have HR' : Hid (ev = ev') := HR.out.2 rfl
        clear HR
        go_wp2
        go_region_held3 (fun W' => W'.cell? ⟨b, o + i * 14, none⟩ = some (.int .i64 ev.kind) ∧ W'.cell? ⟨b, o + i * 14 + 1, none⟩ = some (.int .i64 ev.session) ∧ W'.cell? ⟨b, o + i * 14 + 2, none⟩ = some (.int .i64 ev.window) ∧ W'.cell? ⟨b, o + i * 14 + 3, none⟩ = some (.int .i64 ev.pane) ∧ W'.cell? ⟨b, o + i * 14 + 4, none⟩ = some (.int .i64 ev.index) ∧ W'.cell? ⟨b, o + i * 14 + 5, none⟩ = some (.int .i64 ev.offset) ∧ W'.cell? ⟨b, o + i * 14 + 6, none⟩ = some (.int .i64 ev.tick) ∧ W'.cell? ⟨b, o + i * 14 + 7, none⟩ = some (.int .i64 ev.number) ∧ W'.cell? ⟨b, o + i * 14 + 8, none⟩ = some (.int .i64 ev.flag) ∧ W'.cell? ⟨b, o + i * 14 + 9, none⟩ = some (.string ev.name) ∧ W'.cell? ⟨b, o + i * 14 + 10, none⟩ = some (.string ev.text) ∧ W'.cell? ⟨b, o + i * 14 + 11, none⟩ = some (.string ev.layout) ∧ W'.cell? ⟨b, o + i * 14 + 12, none⟩ = some (.string ev.visible) ∧ W'.cell? ⟨b, o + i * 14 + 13, none⟩ = some (.bool ev.zoom) ∧ W'.cell? ⟨b', o' + i * 14, none⟩ = some (.int .i64 ev'.kind) ∧ W'.cell? ⟨b', o' + i * 14 + 1, none⟩ = some (.int .i64 ev'.session) ∧ W'.cell? ⟨b', o' + i * 14 + 2, none⟩ = some (.int .i64 ev'.window) ∧ W'.cell? ⟨b', o' + i * 14 + 3, none⟩ = some (.int .i64 ev'.pane) ∧ W'.cell? ⟨b', o' + i * 14 + 4, none⟩ = some (.int .i64 ev'.index) ∧ W'.cell? ⟨b', o' + i * 14 + 5, none⟩ = some (.int .i64 ev'.offset) ∧ W'.cell? ⟨b', o' + i * 14 + 6, none⟩ = some (.int .i64 ev'.tick) ∧ W'.cell? ⟨b', o' + i * 14 + 7, none⟩ = some (.int .i64 ev'.number) ∧ W'.cell? ⟨b', o' + i * 14 + 8, none⟩ = some (.int .i64 ev'.flag) ∧ W'.cell? ⟨b', o' + i * 14 + 9, none⟩ = some (.string ev'.name) ∧ W'.cell? ⟨b', o' + i * 14 + 10, none⟩ = some (.string ev'.text) ∧ W'.cell? ⟨b', o' + i * 14 + 11, none⟩ = some (.string ev'.layout) ∧ W'.cell? ⟨b', o' + i * 14 + 12, none⟩ = some (.string ev'.visible) ∧ W'.cell? ⟨b', o' + i * 14 + 13, none⟩ = some (.bool ev'.zoom)) (go_keep) (fail)
        go_wp2
        go_roundw
        case rel => exact ⟨i + 1, by omega, by go_num, by rw [take_next HV.out, take_next HV'.out, HT.out, HR'.out], HB.out.drew⟩
        case measure => simp [intOf]; omega
    · go_wp2
      go_ret
      refine SamePost.yes ?_ HB.out
      have h3 := HT.out
      rwa [List.take_of_length_le (by rw [HL.out]; omega), List.take_of_length_le (by rw [HL'.out]; omega)] at h3

/-- A slice of events that is handed in. -/
def EvArg (w : World) (v : Value) (l : List Ev) : Prop :=
  ((∃ ad c, v = .slice ad 0 c) ∧ l = []) ∨ ∃ b o c, v = .slice (some ⟨b, o, none⟩) l.length c ∧ b < w.heap.size ∧ EvRow w b o l
theorem EvArg.below {w w' : World} {v : Value} {l : List Ev} (h : EvArg w v l) (hb : Below w.heap.size w w') : EvArg w' v l :=
  h.imp id fun ⟨b, o, c, h1, h2, h3⟩ => ⟨b, o, c, h1, Nat.lt_of_lt_of_le h2 hb.size, h3.below h2 hb⟩
theorem EvArg.of_owns {w : World} {B : Nat} {v : Value} {l : List Ev} (h : EvOwns w B v l) : EvArg w v l := by
  rcases h.shape with h1 | ⟨g, cap, rfl, _, _, h3⟩
  · exact .inl ⟨⟨_, _, h1.1⟩, h1.2⟩
  · exact .inr ⟨g, 0, cap, rfl, h3, EvRow.of_owns rfl h⟩
/-- How long it is. -/
theorem EvArg.len {w : World} {v : Value} {l : List Ev} (h : EvArg w v l) : ∃ ad c, v = .slice ad l.length c := by
  rcases h with ⟨⟨ad, c, rfl⟩, rfl⟩ | ⟨b, o, c, rfl, _⟩
  · exact ⟨_, _, rfl⟩
  · exact ⟨_, _, rfl⟩

set_option maxHeartbeats 1000000 in
theorem same_off (n n' : Nat) (h : n ≠ n') (hm : n ≤ 16777216) (hm' : n' ≤ 16777216) (ad ad' : Option Addr) (c c' : Nat) (p : Prop) (hp : ¬ p) (w : World) :
    Calls Tryz.prog 13 #[.slice ad n c, .slice ad' n' c'] w (SamePost p w) := by
  have HP : Hid (¬ p) := hp
  clear hp
  go_enter Tryz.func13, Tryz.ntmps13
  go_wp2
  go_ret
  exact SamePost.no HP.out (Below.refl _ _)

set_option maxHeartbeats 1000000 in
theorem same_empty (ad ad' : Option Addr) (c c' : Nat) (p : Prop) (hp : p) (w : World) :
    Calls Tryz.prog 13 #[.slice ad 0 c, .slice ad' 0 c'] w (SamePost p w) := by
  have HP : Hid p := hp
  clear hp
  go_enter Tryz.func13, Tryz.ntmps13
  go_wp2
  go_loopw [5] (fun v wr => v = .int .i64 0 ∧ w = wr) (fun _ _ => 0)
  case atStart => exact ⟨rfl, rfl⟩
  case round =>
    obtain ⟨rfl, rfl⟩ := hrel
    go_wp2
    go_ret
    exact SamePost.yes HP.out (Below.refl _ _)

/-- 'same' tells whether two lists of events are the same. -/
theorem same_all (l l' : List Ev) (hm : l.length ≤ 16777216) (hm' : l'.length ≤ 16777216) (v v' : Value) (w : World) (h1 : EvArg w v l) (h2 : EvArg w v' l') :
    Calls Tryz.prog 13 #[v, v'] w (SamePost (l = l') w) := by
  by_cases hl : l.length = l'.length
  · by_cases h0 : l.length = 0
    · obtain ⟨ad, c, rfl⟩ := h1.len
      obtain ⟨ad', c', rfl⟩ := h2.len
      rw [← hl, h0]
      refine same_empty ad ad' c c' _ ?_ w
      rw [List.eq_nil_of_length_eq_zero h0, List.eq_nil_of_length_eq_zero (hl.symm.trans h0)]
    · rcases h1 with ⟨_, rfl⟩ | ⟨b, o, c, rfl, hb, hr⟩
      · exact absurd rfl h0
      · rcases h2 with ⟨_, rfl⟩ | ⟨b', o', c', rfl, hb', hr'⟩
        · exact absurd hl h0
        · rw [← hl]
          exact same_rows l l' hl (by omega) hm b o c b' o' c' w hb hb' hr hr'
  · obtain ⟨ad, c, rfl⟩ := h1.len
    obtain ⟨ad', c', rfl⟩ := h2.len
    exact same_off _ _ hl hm hm' ad ad' c c' _ (fun e => hl (by rw [e])) w

end Go.Proofs.YtlgkdnmhoboinaaGreatDoor

namespace Go.Proofs.YtlgkdnmhoboinaaGreatDoor
open Go.RowKit
set_option linter.unusedVariables false

/-- What a field reads holds no line feed. -/
def NoLf (F : FSpec) : Prop := ∀ t g, F.read t = some g → ¬ (10 : UInt8) ∈ t

theorem num_nolf {t : List UInt8} {n : Int} (h : Num t n) : ¬ (10 : UInt8) ∈ t := fun hm => by
  obtain ⟨h1, rfl⟩ := h
  unfold putL at hm
  rw [if_pos h1] at hm
  have := (dec_digit _ _ hm).1
  exact absurd this (by decide)
theorem esc_nolf (l : List UInt8) : ¬ (10 : UInt8) ∈ esc l := fun hm => by
  unfold esc at hm
  obtain ⟨c, _, hm⟩ := List.mem_flatMap.1 hm
  cases hc : mustB c with
  | true =>
    rw [esc1_must hc] at hm
    unfold code at hm
    simp only [List.mem_cons, List.not_mem_nil, or_false] at hm
    have h1 := d1_nat c
    have h2 := d2_nat c
    have h3 := d3_nat c
    rcases hm with h | h | h | h
    · exact absurd h (by decide)
    · rw [← h, show (10 : UInt8).toNat = 10 from rfl] at h1; omega
    · rw [← h, show (10 : UInt8).toNat = 10 from rfl] at h2; omega
    · rw [← h, show (10 : UInt8).toNat = 10 from rfl] at h3; omega
  | false =>
    rw [esc1_not hc] at hm
    have := List.mem_singleton.1 hm
    subst this
    exact absurd hc (by decide)
theorem escB_nolf (l : List UInt8) : ¬ (10 : UInt8) ∈ escB l := by
  cases l with
  | nil => exact fun h => by cases h
  | cons c l =>
    show ¬ (10 : UInt8) ∈ (if c = 37 then code 37 ++ esc l else esc (c :: l))
    split
    · intro h
      rcases List.mem_append.1 h with h | h
      · exact absurd h (by decide)
      · exact esc_nolf l h
    · exact esc_nolf _
theorem name_nolf {t : List UInt8} (h : nameB (str t) = true) : ¬ (10 : UInt8) ∈ t := fun hm => by
  unfold nameB at h
  split at h
  · have h1 := (Bool.and_eq_true _ _ ▸ h).1
    rw [str_data] at h1
    exact absurd (List.all_eq_true.1 h1 10 hm) (by decide)
  · cases h
theorem drop_nil {p : UInt8 → Bool} : ∀ l : List UInt8, l.dropWhile p = [] → ∀ x ∈ l, p x = true
  | [], _, x, hx => by cases hx
  | c :: l, h, x, hx => by
    cases hc : p c with
    | false => simp only [List.dropWhile_cons, hc] at h; cases h
    | true =>
      simp only [List.dropWhile_cons, hc, if_true] at h
      rcases List.mem_cons.1 hx with rfl | hx
      · exact hc
      · exact drop_nil l h x hx
theorem plan_nolf {t : List UInt8} (h : planOk t = true) : ¬ (10 : UInt8) ∈ t := fun hm => by
  unfold planOk at h
  simp only [Bool.and_eq_true] at h
  have h1 := List.isEmpty_iff.1 h.2.2
  unfold Lib.trimLeftS at h1
  have h2 := drop_nil t h1 10 hm
  exact absurd h2 (by decide)

theorem nl_num (m : Int) (f : NF) : NoLf (fNum m f) := fun t g h => by obtain ⟨n, h1, _⟩ := read_num h; exact num_nolf h1
theorem nl_id (c : UInt8) (hc : c ≠ 10) (f : NF) : NoLf (fId c f) := fun t g h => by
  obtain ⟨n, ⟨r, rfl, h1, _⟩, _⟩ := read_id h
  intro hm
  rcases List.mem_cons.1 hm with e | e
  · exact hc e.symm
  · exact num_nolf h1 e
theorem nl_name : NoLf fName := fun t g h => name_nolf (read_name h).1
theorem nl_word : NoLf fWord := fun t g h => name_nolf (Bool.and_eq_true _ _ ▸ (read_word h).1).1
theorem nl_plan (f : PF) : NoLf (fPlan f) := fun t g h => plan_nolf (read_plan h).1
theorem nl_zoom : NoLf fZoom := fun t g h => by
  obtain ⟨z, rfl, _⟩ := read_zoom h
  cases z <;> decide
theorem nl_colon : NoLf fColon := fun t g h => by obtain ⟨rfl, _⟩ := read_colon h; decide
theorem nl_esc (lo hi : Nat) : NoLf (fEsc lo hi) := fun t g h => by obtain ⟨u, rfl, _⟩ := read_esc h; exact esc_nolf u
theorem nl_body : NoLf fBody := fun t g h => by obtain ⟨u, rfl, _⟩ := read_body h; exact escB_nolf u
theorem nl_reason : NoLf fReason := fun t g h => by
  rcases read_reason h with ⟨rfl, _⟩ | ⟨r, rfl, h1⟩
  · exact fun h => by cases h
  · intro hm
    rcases List.mem_cons.1 hm with e | e
    · exact absurd e (by decide)
    · exact nl_esc _ _ _ _ h1 e

theorem nl_row (k : Nat) (h1 : 1 ≤ k) (h2 : k ≤ 24) : ∀ F ∈ fieldsOf k, NoLf F := by
  intro F hF
  rcases (show k = 1 ∨ k = 2 ∨ k = 3 ∨ k = 4 ∨ k = 5 ∨ k = 6 ∨ k = 7 ∨ k = 8 ∨ k = 9 ∨ k = 10 ∨ k = 11 ∨ k = 12 ∨ k = 13 ∨ k = 14 ∨ k = 15 ∨ k = 16 ∨ k = 17 ∨ k = 18 ∨ k = 19 ∨ k = 20 ∨ k = 21 ∨ k = 22 ∨ k = 23 ∨ k = 24 by omega) with rfl | rfl | rfl | rfl | rfl | rfl | rfl | rfl | rfl | rfl | rfl | rfl | rfl | rfl | rfl | rfl | rfl | rfl | rfl | rfl | rfl | rfl | rfl | rfl
  all_goals
    simp only [fieldsOf, List.mem_cons, List.not_mem_nil, or_false] at hF
    rcases hF with rfl | rfl | rfl | rfl | rfl | rfl | rfl
  all_goals first
    | exact nl_num _ _
    | exact nl_id _ (by decide) _
    | exact nl_name
    | exact nl_word
    | exact nl_plan _
    | exact nl_zoom
    | exact nl_colon
    | exact nl_esc _ _
    | exact nl_body
    | exact nl_reason

theorem readAll_nolf : ∀ (fs : List FSpec) (ts : List (List UInt8)) (e0 e : Ev), (∀ F ∈ fs, NoLf F) → ts.length ≤ fs.length → readAll fs ts e0 = some e → ∀ t ∈ ts, ¬ (10 : UInt8) ∈ t
  | _, [], _, _, _, _, _, t, ht => by cases ht
  | [], _ :: _, _, _, _, hl, _, _, _ => by simp at hl
  | F :: fs, t :: ts, e0, e, hF, hl, h, u, hu => by
    obtain ⟨g, h1, h2⟩ := readAll_cons h
    rcases List.mem_cons.1 hu with rfl | hu
    · exact hF F (List.mem_cons_self ..) _ g h1
    · exact readAll_nolf fs ts _ e (fun G hG => hF G (List.mem_cons_of_mem _ hG)) (by simpa using hl) h2 u hu

theorem joinW_two (a b : List UInt8) (r : List (List UInt8)) : joinW (a :: b :: r) = a ++ 32 :: joinW (b :: r) := by simp [joinW, List.intercalate]
theorem joinW_nolf : ∀ ts : List (List UInt8), (∀ t ∈ ts, ¬ (10 : UInt8) ∈ t) → ¬ (10 : UInt8) ∈ joinW ts
  | [], _ => fun h => by cases h
  | [a], h => by
    rw [show joinW [a] = a by simp [joinW, List.intercalate]]
    exact h a (List.mem_cons_self ..)
  | a :: b :: r, h => by
    rw [joinW_two]
    intro hm
    rcases List.mem_append.1 hm with hm | hm
    · exact h a (List.mem_cons_self ..) hm
    · rcases List.mem_cons.1 hm with e | hm
      · exact absurd e (by decide)
      · exact joinW_nolf (b :: r) (fun t ht => h t (List.mem_cons_of_mem _ ht)) hm

theorem heads_nolf : ∀ k, k < 25 → (headOf k).contains 10 = false := by decide
theorem fields_pos (k : Nat) (h1 : 1 ≤ k) (h2 : k ≤ 24) : 1 ≤ (fieldsOf k).length := (fields_len k h1 h2).1

theorem read_nolf {k : Nat} (h1 : 1 ≤ k) (h2 : k ≤ 24) {l : List UInt8} {e : Ev} (h : readS k l = some e) : ¬ (10 : UInt8) ∈ l := by
  have hh := readS_head h
  unfold readS at h
  rw [if_pos hh] at h
  simp only at h
  split at h
  · cases h
  · intro hm
    obtain ⟨r, rfl⟩ := hh
    rw [List.drop_left] at h
    rcases List.mem_append.1 hm with hm | hm
    · have := heads_nolf k (by omega)
      rw [List.contains_eq_mem, decide_eq_false_iff_not] at this
      exact this hm
    · have hp := fields_pos k h1 h2
      have hc := cutK_length ((fieldsOf k).length - 1) r
      rw [← joinW_cutK ((fieldsOf k).length - 1) r] at hm
      exact joinW_nolf _ (readAll_nolf _ _ _ _ (nl_row k h1 h2) (by omega) h) hm

/-- No line of an event holds a line feed. -/
theorem enc_nolf {e : Ev} {l : List UInt8} (h : encS e = some l) : ¬ (10 : UInt8) ∈ l := by
  rcases encS_cases e with h0 | ⟨k, h1, h2, _, h3, h4⟩
  · rw [h0] at h; cases h
  · rw [h4] at h
    cases h
    exact read_nolf h1 h2 h3

theorem tw_line {a b : List UInt8} (h : ¬ (10 : UInt8) ∈ a) : (a ++ 10 :: b).takeWhile (· != 10) = a ∧ ((a ++ 10 :: b).dropWhile (· != 10)).drop 1 = b := by
  induction a with
  | nil => exact ⟨rfl, rfl⟩
  | cons c a ih =>
    have hc : (c != 10) = true := by
      have : c ≠ 10 := fun e => h (by rw [e]; exact List.mem_cons_self ..)
      simpa using this
    obtain ⟨i1, i2⟩ := ih (fun hm => h (List.mem_cons_of_mem _ hm))
    simp only [List.cons_append, List.takeWhile_cons, List.dropWhile_cons, hc, if_true, i1, i2, and_self]
theorem linesS_line {a b : List UInt8} (h : ¬ (10 : UInt8) ∈ a) : linesS (a ++ 10 :: b) = (a :: (linesS b).1, (linesS b).2) := by
  obtain ⟨h1, h2⟩ := tw_line (b := b) h
  rw [linesS_yes (List.mem_append_right _ (List.mem_cons_self ..)), h1, h2]

/-- A list's text is read back. -/
theorem text_back : ∀ (l : List Ev) (t : List UInt8), textS l = some t → (linesS t).1.map decS = l ∧ (linesS t).2 = []
  | [], t, h => by
    cases h
    rw [linesS_no (by simp)]
    exact ⟨rfl, rfl⟩
  | e :: l, t, h => by
    unfold textS at h
    split at h
    · cases h
    · rename_i line he
      obtain ⟨u, hu, rfl⟩ := Option.map_eq_some_iff.1 h
      obtain ⟨i1, i2⟩ := text_back l u hu
      rw [linesS_line (enc_nolf he)]
      exact ⟨by rw [List.map_cons, dec_enc he, i1], i2⟩
theorem text_inj {l l' : List Ev} {t : List UInt8} (h : textS l = some t) (h' : textS l' = some t) : l = l' := (text_back l t h).1.symm.trans (text_back l' t h').1

end Go.Proofs.YtlgkdnmhoboinaaGreatDoor
