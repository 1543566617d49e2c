/-
  A text's lines.
  The document's lines.
  The document's Word.
  The walk of WireWords.
-/
import Derived.Test.YtplolaondmeccaaGreatDoorWCut
import Derived.Test.YtplolaondmeccaaGreatDoorWRowB
import Derived.Test.YtplolaondmeccaaGreatDoorWRDX
import Derived.Test.YtplolaondmeccaaGreatDoorRDe
import Derived.Test.YtplolaondmeccaaGreatDoorWWordW
import Derived.OwnWalk
import Derived.WalkKit
import Derived.LoopTactic
import Derived.RegionTactic
import Derived.Deep.RegionWith
import Derived.Deep.DrawnRows
import Derived.Deep.RegionHeld3
namespace Go.Proofs.YtplolaondmeccaaGreatDoor
open Go.RowKit
set_option linter.unusedVariables false

/-- A text's lines, and what is left. -/
def cutLines : Nat → List UInt8 → List (List UInt8) × List UInt8
  | 0, l => ([], l)
  | n + 1, l => if 10 ∈ l then (l.takeWhile (· != 10) :: (cutLines n ((l.dropWhile (· != 10)).drop 1)).1, (cutLines n ((l.dropWhile (· != 10)).drop 1)).2) else ([], l)
def linesS (l : List UInt8) : List (List UInt8) × List UInt8 := cutLines l.length l

theorem rest10 (l : List UInt8) (h : (10 : UInt8) ∈ l) : ((l.dropWhile (· != 10)).drop 1).length < l.length := by
  have := congrArg List.length (split10 l h)
  rw [List.length_append, List.length_cons] at this
  omega
theorem cutLines_big : ∀ (n m : Nat) (l : List UInt8), l.length ≤ n → l.length ≤ m → cutLines n l = cutLines m l
  | 0, m, l, h, h' => by
    have : l = [] := List.length_eq_zero_iff.1 (by omega)
    subst this
    cases m <;> simp [cutLines]
  | n + 1, 0, l, h, h' => by
    have : l = [] := List.length_eq_zero_iff.1 (by omega)
    subst this
    simp [cutLines]
  | n + 1, m + 1, l, h, h' => by
    unfold cutLines
    by_cases hm : (10 : UInt8) ∈ l
    · have hl := rest10 l hm
      rw [if_pos hm, if_pos hm, cutLines_big n m _ (by omega) (by omega)]
    · rw [if_neg hm, if_neg hm]
theorem linesS_no {l : List UInt8} (h : ¬ (10 : UInt8) ∈ l) : linesS l = ([], l) := by
  unfold linesS
  cases hn : l.length with
  | zero => rfl
  | succ n => unfold cutLines; rw [if_neg h]
theorem linesS_yes {l : List UInt8} (h : (10 : UInt8) ∈ l) : linesS l = (l.takeWhile (· != 10) :: (linesS ((l.dropWhile (· != 10)).drop 1)).1, (linesS ((l.dropWhile (· != 10)).drop 1)).2) := by
  have hl := rest10 l h
  unfold linesS
  cases hn : l.length with
  | zero => omega
  | succ n =>
    have e : cutLines (n + 1) l = (l.takeWhile (· != 10) :: (cutLines n ((l.dropWhile (· != 10)).drop 1)).1, (cutLines n ((l.dropWhile (· != 10)).drop 1)).2) := by
      have e0 : ∀ l : List UInt8, cutLines (n + 1) l = if 10 ∈ l then (l.takeWhile (· != 10) :: (cutLines n ((l.dropWhile (· != 10)).drop 1)).1, (cutLines n ((l.dropWhile (· != 10)).drop 1)).2) else ([], l) := fun _ => rfl
      rw [e0, if_pos h]
    rw [e, cutLines_big n _ _ (by omega) (Nat.le_refl _)]
theorem linesS_count : ∀ (n : Nat) (l : List UInt8), l.length ≤ n → (linesS l).1.length ≤ l.length
  | n, l, h => by
    by_cases hm : (10 : UInt8) ∈ l
    · have hl := rest10 l hm
      rw [linesS_yes hm]
      cases n with
      | zero => omega
      | succ n =>
        have := linesS_count n ((l.dropWhile (· != 10)).drop 1) (by omega)
        show _ + 1 ≤ _
        omega
    · rw [linesS_no hm]; simp

/-- strings.Cut at a line's end. -/
theorem linesS_line {a b : List UInt8} (h : ¬ (10 : UInt8) ∈ a) : linesS (a ++ 10 :: b) = (a :: (linesS b).1, (linesS b).2) := by
  obtain ⟨h1, h2⟩ := bar_lf a b h
  rw [linesS_yes (List.mem_append_right _ (List.mem_cons_self ..)), h1, h2]


theorem take_next {α : Type} {l : List α} {i : Nat} {a : α} (h : l[i]? = some a) : l.take (i + 1) = l.take i ++ [a] := by
  rw [List.take_add_one, h]; rfl


end Go.Proofs.YtplolaondmeccaaGreatDoor

namespace Go.Proofs.YtplolaondmeccaaGreatDoor
open Go.RowKit
set_option linter.unusedVariables false
set_option maxRecDepth 20000

/-- A list of texts of one's own. -/
def txCells (l : List (List UInt8)) : List Value := l.map fun t => .string (str t)
def TxOwns (w : World) (B : Nat) (v : Value) (l : List (List UInt8)) : Prop := w.ownsRow B 9 1 v l.length (txCells l)
theorem TxOwns.below {w w' : World} {B : Nat} {v : Value} {l : List (List UInt8)} (h : TxOwns w B v l) (hb : Below w.heap.size w w') : TxOwns w' B v l :=
  World.ownsRow.kept (row := none) h ⟨hb.os, hb.tape, hb.output, hb.size, fun k hk _ => hb.block k hk⟩ (by cases v.ownBlock <;> simp)

theorem wpList_append_tx {ops : Array Oper} {rest : List Oper} {o : Oper} {a : Act} {Q : Exit → Act → World → Prop} (w : World) (hgd : o.guard = none) (s x : Operand)
    (ho : o.op = .call { callee := .builtin .append, args := #[s, x], argTypes := #[28, 28] })
    (B : Nat) (v : Value) (l : List (List UInt8)) (e : ByteArray) (t : List UInt8) (het : str t = e) (hs : a.eval s = v) (hown : TxOwns w B v l) (hx : a.eval x = .slice (some ⟨w.heap.size, 0, none⟩) 1 1) (hlen : l.length ≤ 16777216) (hB : B ≤ w.heap.size)
    (h : ∀ v' w', TxOwns w' B v' (l ++ [t]) → Below B w w' → wpList Tryz.prog ops Q rest (a.put o.dst v') w') : wpList Tryz.prog ops Q (o :: rest) a (w.alloc (.cells #[.string e] 9)) := by
  subst het
  obtain ⟨i0, hi, hz0, hz1, hz2⟩ := info_parts info9
  have hown' : (w.alloc (.cells #[.string (str t)] 9)).ownsRow B 9 1 v l.length (txCells l) := World.ownsRow.alloc hown _
  refine wpList_append_own _ hgd s x 28 ho B 9 i0 (.string ⟨#[]⟩) 1 16 Tryz.underlying28 hi hz0 hz1 hz2 rfl (by decide) v l.length (txCells l) hs hown' ⟨w.heap.size, 0, none⟩ 1 1 [.string (str t)] hx rfl ?_ ?_ ?_ ?_ ?_ ?_
  · intro j u hu
    rw [show (⟨w.heap.size, 0, none⟩ : Addr).add j = ⟨w.heap.size, j, none⟩ by unfold Addr.add; split <;> simp_all, cell_at (heap_alloc_new w _)]
    simpa using hu
  · intro u hu
    rw [List.mem_singleton.1 hu]
    rfl
  · unfold maxLen; omega
  · omega
  · rw [size1]; omega
  · intro v' w' h2 h3 _
    refine h v' w' ?_ ?_
    · unfold TxOwns txCells
      rw [List.map_append, List.length_append]
      exact h2
    · refine ((Below.refl B w).alloc hB _).grown h3 (by rw [size1]; omega) (fun k hk => ?_)
      exact (World.ownsRow.lt hown k hk).1

theorem data_at' (s : ByteArray) (k : Nat) (h : k < s.size) : s.data.toList[k]'(by rw [size_data]; exact h) = s[k] := rfl
theorem strBack' (s : ByteArray) : str s.data.toList = s := rfl
theorem extract_mid (s : ByteArray) (a k : Nat) : (s.extract a k).data.toList = (s.data.toList.drop a).take (k - a) := by
  simp [ByteArray.data_extract, Array.toList_extract, List.extract_eq_take_drop]

/-- What lines answers. -/
def LinesPost (L : List UInt8) (w : World) (e : Ending) (w' : World) : Prop := ∃ v, e = .returned (.tuple #[v, .string (str (linesS L).2)]) ∧ TxOwns w' w.heap.size v (linesS L).1 ∧ Below w.heap.size w w'

set_option maxHeartbeats 1000000 in
theorem refLines_any (s : ByteArray) (hs : s.size ≤ 1048576) (w : World) :
    Calls Tryz.prog 20 #[.string s] w (LinesPost s.data.toList w) := by
  obtain ⟨L, hL⟩ : ∃ L, s.data.toList = L := ⟨_, rfl⟩
  have HL : Hid (s.data.toList = L) := hL
  rw [hL]
  clear hL
  go_enter Tryz.func20, Tryz.ntmps20
  go_wp2
  go_loopw [4, 5, 6] (fun u x i wr => ∃ (k a : Nat) (ls : List (List UInt8)), k ≤ s.size ∧ a ≤ k ∧ i = .int .i64 k ∧ x = .int .i64 a ∧ ls.length ≤ k ∧ Hid (linesS L = (ls ++ (linesS (L.drop a)).1, (linesS (L.drop a)).2)) ∧ Hid (¬ (10 : UInt8) ∈ (L.drop a).take (k - a)) ∧ TxOwns wr w.heap.size u ls ∧ Below w.heap.size w wr) (fun _ _ i _ => s.size - (intOf i).toNat)
  case atStart => exact ⟨0, 0, [], Nat.zero_le _, Nat.le_refl _, rfl, rfl, Nat.le_refl _, (show linesS L = ([] ++ (linesS L).1, (linesS L).2) by simp), (show ¬ (10 : UInt8) ∈ L.take 0 by simp), World.ownsRow_nil w _ _ 1, Below.refl _ _⟩
  case round =>
    obtain ⟨k, a, ls, hk, ha, rfl, rfl, hlk, HS, HN, hown, hbl⟩ := hrel
    have HB : Hid (Below w.heap.size w wr) := hbl
    have hBr : w.heap.size ≤ wr.heap.size := hbl.size
    clear hbl
    by_cases hlt : k < s.size
    · by_cases he : ((s[k].toNat : Int) == 10) = true
      · have HOw : Hid (TxOwns wr w.heap.size _ ls) := hown
        have hb10 : s[k] = 10 := UInt8.toNat_inj.1 (by have := eq_of_beq he; show s[k].toNat = 10; omega)
        have hkl : k < L.length := by rw [← HL.out, size_data]; exact hlt
        have hLk : L[k] = 10 := by
          have h1 := data_at' s k hlt
          rw [hb10] at h1
          simp only [HL.out] at h1
          exact h1
        obtain ⟨line, hline⟩ : ∃ x, (L.drop a).take (k - a) = x := ⟨_, rfl⟩
        have hda : L.drop a = line ++ 10 :: L.drop (k + 1) := by
          rw [← hline]
          have h2 := List.take_append_drop (k - a) (L.drop a)
          rw [List.drop_drop, show a + (k - a) = k by omega, List.drop_eq_getElem_cons hkl, hLk] at h2
          exact h2.symm
        have HSt : Hid (linesS L = ((ls ++ [line]) ++ (linesS (L.drop (k + 1))).1, (linesS (L.drop (k + 1))).2)) := by
          show _ = _
          rw [HS.out, hda, linesS_line (by rw [← hline]; exact HN.out)]
          simp
        have HX : Hid (str line = s.extract a k) := by
          show _ = _
          rw [← strBack' (s.extract a k), extract_mid, HL.out, hline]
        have HN' : Hid (¬ (10 : UInt8) ∈ (L.drop (k + 1)).take (k + 1 - (k + 1))) := by
          show ¬ _
          simp
        clear hown hda hline hLk hkl hb10 HS HN
        go_wp2_with (at_builtin; refine wpList_append_tx _ rfl (.tmp 17) (.tmp 22) rfl w.heap.size _ ls (s.extract a k) line HX.out rfl HOw.out rfl (by omega) hBr ?_; intro v2 w2 hown2 hb2)
        go_roundw
        case rel => exact ⟨k + 1, k + 1, ls ++ [line], by omega, Nat.le_refl _, by go_num, by go_num, by simp; omega, HSt, HN', hown2, HB.out.trans hb2⟩
        case measure => simp [intOf]; omega
      · have he' : ((s[k].toNat : Int) == 10) = false := by simpa using he
        have HN' : Hid (¬ (10 : UInt8) ∈ (L.drop a).take (k + 1 - a)) := by
          have hkl : k < L.length := by rw [← HL.out, size_data]; exact hlt
          have hLk : L[k] ≠ 10 := by
            have h1 := data_at' s k hlt
            simp only [HL.out] at h1
            rw [h1]
            intro h
            rw [h] at he'
            exact absurd he' (by decide)
          show ¬ _
          rw [show k + 1 - a = (k - a) + 1 by omega, take_next (l := L.drop a) (a := L[k]) (by rw [List.getElem?_drop, show a + (k - a) = k by omega]; exact List.getElem?_eq_getElem hkl)]
          intro hm
          rcases List.mem_append.1 hm with hm | hm
          · exact HN.out hm
          · exact hLk (List.mem_singleton.1 hm).symm
        have HOw : Hid (TxOwns wr w.heap.size _ ls) := hown
        clear he hown HN
        go_wp2
        go_roundw
        case rel => exact ⟨k + 1, a, ls, by omega, by omega, by go_num, rfl, by omega, HS, HN', HOw.out, HB.out⟩
        case measure => simp [intOf]; omega
    · have hne : ¬ (10 : UInt8) ∈ L.drop a := by
        have := HN.out
        rwa [List.take_of_length_le (by rw [List.length_drop, ← HL.out, size_data]; omega)] at this
      have HSt : Hid (linesS L = (ls, L.drop a)) := by
        show _ = _
        rw [HS.out, linesS_no hne]
        simp
      have HX : Hid (str (L.drop a) = s.extract a s.size) := by
        show _ = _
        rw [← strBack' (s.extract a s.size), Lib.extract_to_end, HL.out]
      have HOw : Hid (TxOwns wr w.heap.size _ ls) := hown
      have ha2 : (a : Int) ≤ (s.size : Int) := by omega
      clear hown hne HS HN
      go_wp2_with fail
      go_region
      all_goals go_wp2
      all_goals go_ret2
      all_goals
        refine ⟨u4, ?_, ?_, HB.out.drew⟩
        · rw [HSt.out, HX.out]
          rfl
        · rw [HSt.out]
          exact HOw.out

end Go.Proofs.YtplolaondmeccaaGreatDoor

namespace Go.Proofs.YtplolaondmeccaaGreatDoor
open Go.RowKit
set_option linter.unusedVariables false

theorem TxOwns.cell {w : World} {B : Nat} {v : Value} {l : List (List UInt8)} (h : TxOwns w B v l) {i : Nat} {t : List UInt8} (hi : l[i]? = some t) : ∃ g cap, v = .slice (some ⟨g, 0, none⟩) l.length cap ∧ g < w.heap.size ∧ w.cell? ⟨g, i, none⟩ = some (.string (str t)) := by
  rcases h.2 with ⟨_, h0⟩ | ⟨g, cap, cur, rfl, hg, hb, _, _, _, hc⟩
  · rw [List.eq_nil_of_length_eq_zero h0] at hi
    cases hi
  · refine ⟨g, cap, rfl, lt_of_block hb, ?_⟩
    have hx : (txCells l)[i]? = some (.string (str t)) := by unfold txCells; rw [List.getElem?_map, hi]; rfl
    rw [← hc] at hx
    rw [cell_at hb]
    have hi2 := (List.getElem?_eq_some_iff.1 hi).1
    rw [List.getElem?_take_of_lt (by omega)] at hx
    simpa using hx
theorem TxOwns.shape {w : World} {B : Nat} {v : Value} {l : List (List UInt8)} (h : TxOwns w B v l) : ∃ ad cap, v = .slice ad l.length cap := by
  rcases h.2 with ⟨h1, h0⟩ | ⟨g, cap, cur, h1, _⟩
  · exact ⟨none, 0, by rw [h0]; exact h1⟩
  · exact ⟨_, _, h1⟩

theorem lines_short : ∀ (n : Nat) (l : List UInt8), l.length ≤ n → ∀ t ∈ (linesS l).1, t.length ≤ l.length
  | n, l, hn, t, ht => by
    by_cases h : (10 : UInt8) ∈ l
    · have h1 := rest10 l h
      rw [linesS_yes h] at ht
      rcases List.mem_cons.1 ht with rfl | ht
      · have := congrArg List.length (List.takeWhile_append_dropWhile (p := (· != (10 : UInt8))) (l := l))
        rw [List.length_append] at this
        omega
      · cases n with
        | zero => omega
        | succ n => exact Nat.le_trans (lines_short n _ (by omega) t ht) (by omega)
    · rw [linesS_no h] at ht
      cases ht

theorem rest_short : ∀ (n : Nat) (l : List UInt8), l.length ≤ n → (linesS l).2.length ≤ l.length
  | n, l, hn => by
    by_cases h : (10 : UInt8) ∈ l
    · have h1 := rest10 l h
      rw [linesS_yes h]
      cases n with
      | zero => omega
      | succ n => exact Nat.le_trans (rest_short n _ (by omega)) (by omega)
    · rw [linesS_no h]
      exact Nat.le_refl _

/-- A place as the document counts it. -/
def atK (p : Int) : Int := if p = 3 then -1 else p
theorem next_after (p c : Int) (hp : p = 0 ∨ p = 1 ∨ p = 2) : nextK p c = atK (afterK p c) ∧ (afterK p c = 0 ∨ afterK p c = 1 ∨ afterK p c = 2 ∨ afterK p c = 3) := by
  unfold atK nextK afterK
  rcases hp with rfl | rfl | rfl <;> (by_cases h1 : c = 1 <;> by_cases h2 : c = 2 <;> by_cases h3 : c = 3 <;> by_cases h4 : c = 4 <;> by_cases h5 : c = 5 <;> simp [h1, h2, h3, h4, h5])

noncomputable def foldP (p : Int) (ls : List (List UInt8)) : Int := ls.foldl (fun p t => afterK p (classK (decS t).kind)) p
theorem after_lost (c : Int) : afterK 3 c = 3 := by unfold afterK; simp
theorem foldP_lost : ∀ ls, foldP 3 ls = 3
  | [] => rfl
  | t :: ls => by
    show foldP (afterK 3 (classK (decS t).kind)) ls = 3
    rw [after_lost]
    exact foldP_lost ls
noncomputable def finW (p : Int) (r : List UInt8) : Bool × Bool := if p = 3 then (false, false) else (mayS p r, r.isEmpty && decide (p ≠ 1))
theorem wordS_lines : ∀ (n : Nat) (p : Int) (l : List UInt8), l.length ≤ n → wordS p l = finW (foldP p (linesS l).1) (linesS l).2 := by
  intro n
  induction n with
  | zero =>
    intro p l hl
    obtain rfl : l = [] := List.length_eq_zero_iff.1 (by omega)
    rw [linesS_no (by simp)]
    show wordS p [] = finW p []
    unfold finW
    by_cases hp : p = 3
    · rw [if_pos hp, hp, wordS_lost]
    · rw [if_neg hp, wordS_rest hp (by simp)]
  | succ n ih =>
    intro p l hl
    by_cases hp : p = 3
    · rw [hp, wordS_lost, foldP_lost]
      rfl
    by_cases hm : (10 : UInt8) ∈ l
    · rw [wordS_line hp hm, linesS_yes hm]
      exact ih _ _ (by have := cut_shorter hm; omega)
    · rw [wordS_rest hp hm, linesS_no hm]
      show _ = finW p l
      unfold finW
      rw [if_neg hp]

set_option maxRecDepth 20000 in
set_option maxHeartbeats 2000000 in
theorem refWord_any (s : ByteArray) (hs : s.size ≤ 1048576) (w : World) :
    Calls Tryz.prog 10 #[.string s] w fun e w' => e = .returned (.tuple #[.bool (wordS 0 s.data.toList).1, .bool (wordS 0 s.data.toList).2]) ∧ Below w.heap.size w w' := by
  obtain ⟨L, hL⟩ : ∃ L, s.data.toList = L := ⟨_, rfl⟩
  have HC := refLines_any s hs w
  have hLl : L.length ≤ 1048576 := by rw [← hL, size_data]; exact hs
  rw [hL] at HC ⊢
  have hw := wordS_lines _ 0 L (Nat.le_refl _)
  obtain ⟨ls, hls⟩ : ∃ x, (linesS L).1 = x := ⟨_, rfl⟩
  obtain ⟨R, hR⟩ : ∃ x, (linesS L).2 = x := ⟨_, rfl⟩
  have hcount : ls.length ≤ 1048576 := by
    rw [← hls]
    exact Nat.le_trans (linesS_count L.length L (Nat.le_refl _)) hLl
  have HD : Hid (∀ t ∈ ls, t.length ≤ 1048576) := fun t ht => Nat.le_trans (lines_short L.length L (Nat.le_refl _) t (by rw [hls]; exact ht)) hLl
  have hRl : R.length ≤ 1048576 := by
    rw [← hR]
    exact Nat.le_trans (rest_short L.length L (Nat.le_refl _)) hLl
  unfold LinesPost at HC
  rw [hls, hR] at HC hw
  obtain ⟨res, hres⟩ : ∃ r, wordS 0 L = r := ⟨_, rfl⟩
  obtain ⟨wa, wb⟩ := res
  rw [hres] at hw ⊢
  obtain ⟨q, hq⟩ : ∃ q, foldP 0 ls = q := ⟨_, rfl⟩
  rw [hq] at hw
  have HFin : Hid ((wa, wb) = finW q R) := hw
  have HQ : Hid (foldP 0 ls = q) := hq
  dsimp only
  have HCl : Hid (Calls Tryz.prog 20 #[.string s] w fun e w' => ∃ v, e = .returned (.tuple #[v, .string (str R)]) ∧ TxOwns w' w.heap.size v ls ∧ Below w.heap.size w w') := HC
  clear hL HC hls hR hres hw hq
  go_enter Tryz.func10, Tryz.ntmps10
  go_wp2_with fail
  refine HCl.out.mono ?_
  rintro e w1 ⟨v1, rfl, ho1, hb1⟩
  obtain ⟨ad, cap, hv1⟩ := ho1.shape
  subst hv1
  obtain ⟨m, hm⟩ : ∃ m, ls.length = m := ⟨_, rfl⟩
  have HM : Hid (ls.length = m) := hm
  have HO1 : Hid (TxOwns w1 w.heap.size (.slice ad m cap) ls) := hm ▸ ho1
  have HB1 : Hid (Below w.heap.size w w1) := hb1
  rw [hm] at hcount ⊢
  clear ho1 hb1 hm
  go_wp2
  go_loopw [6, 7] (fun u i wr => ∃ (k : Nat) (p : Int), k ≤ m ∧ i = .int .i64 k ∧ u = .int .i64 (atK p) ∧ (p = 0 ∨ p = 1 ∨ p = 2 ∨ p = 3) ∧ foldP p (ls.drop k) = q ∧ Below w1.heap.size w1 wr) (fun _ i _ => m - (intOf i).toNat)
  case atStart => exact ⟨0, 0, Nat.zero_le _, rfl, rfl, .inl rfl, HQ.out, Below.refl _ _⟩
  case round =>
    obtain ⟨k, p, hk, rfl, rfl, hp, hf, hb⟩ := hrel
    have HB : Hid (Below w1.heap.size w1 wr) := hb
    have HBw : Hid (Below w.heap.size w wr) := HB1.out.trans (hb.mono HB1.out.size)
    by_cases hp3 : p = 3
    · subst hp3
      rw [foldP_lost] at hf
      rw [← hf] at HFin
      have ha : wa = false := congrArg Prod.fst HFin.out
      have hb' : wb = false := congrArg Prod.snd HFin.out
      subst ha
      subst hb'
      clear hf hb hp HFin
      rw [show atK 3 = -1 from rfl]
      by_cases hlt : k < m
      · have hlz : (k : Int) < (m : Int) := by omega
        go_wp2
        all_goals go_ret2
        all_goals exact ⟨rfl, HBw.out⟩
      · have hlz : ¬ (k : Int) < (m : Int) := by omega
        go_wp2
        all_goals go_ret2
        all_goals exact ⟨rfl, HBw.out⟩
    have hp2 : p = 0 ∨ p = 1 ∨ p = 2 := by omega
    have hat : atK p = p := if_neg hp3
    rw [hat]
    have hpz : ¬ p < 0 := by omega
    have hpz2 : 0 ≤ p := by omega
    by_cases hlt : k < m
    · have hlz : (k : Int) < (m : Int) := by omega
      obtain ⟨t, ht⟩ : ∃ t, ls[k]? = some t := ⟨_, List.getElem?_eq_getElem (by rw [HM.out]; exact hlt)⟩
      obtain ⟨hkl, hkt⟩ := List.getElem?_eq_some_iff.1 ht
      obtain ⟨g, cap2, hv, hg, hcell⟩ := (HO1.out.below HB.out).cell ht
      rw [HM.out] at hv
      cases hv
      have htl := HD.out t (List.mem_of_getElem? ht)
      rw [List.drop_eq_getElem_cons hkl, hkt] at hf
      obtain ⟨c, hc⟩ : ∃ x, classK (decS t).kind = x := ⟨_, rfl⟩
      have hf2 : foldP (afterK p c) (ls.drop (k + 1)) = q := hc ▸ hf
      have HF2 : Hid (foldP (afterK p c) (ls.drop (k + 1)) = q) := hf2
      have HCl2 : Hid (∀ W, Calls Tryz.prog 22 #[.string (str t)] W fun e w' => e = .returned (.int .i64 c) ∧ Below W.heap.size W w') := fun W => by
        have := refClass_any (str t) (by rw [str_size]; exact htl) W
        rw [str_data, hc] at this
        exact this
      obtain ⟨hn1, hn2⟩ := next_after p c hp2
      have HNx : Hid (∀ W, Calls Tryz.prog 21 #[.int .i64 p, .int .i64 c] W fun e w' => e = .returned (.int .i64 (atK (afterK p c))) ∧ W = w') := fun W => hn1 ▸ next_any p c W
      have HN2 : Hid (afterK p c = 0 ∨ afterK p c = 1 ∨ afterK p c = 2 ∨ afterK p c = 3) := hn2
      clear hf hf2 hc ht hkt hn1 hn2 hb hp hp2 hat hp3
      go_wp2_with fail
      refine (HCl2.out _).mono ?_
      rintro e w2 ⟨rfl, hb2⟩
      have HB2 : Hid (Below w1.heap.size w1 w2) := HB.out.trans (hb2.mono HB.out.size)
      clear hb2
      go_wp2_with fail
      refine (HNx.out _).mono ?_
      rintro e w3 ⟨rfl, rfl⟩
      go_wp2
      go_roundw
      case rel => exact ⟨k + 1, afterK p c, by omega, by go_num, rfl, HN2.out, HF2.out, HB2.out⟩
      case measure => simp [intOf]; omega
    · have hlz : ¬ (k : Int) < (m : Int) := by omega
      have hdr : ls.drop k = [] := List.drop_eq_nil_of_le (by rw [HM.out]; omega)
      rw [hdr] at hf
      have hpq : p = q := hf
      subst hpq
      clear hf hdr hb hp hat hp3
      rcases hp2 with rfl | rfl | rfl
      · cases R with
        | nil =>
          have hst : str [] = ⟨#[]⟩ := rfl
          have ha : wa = true := congrArg Prod.fst HFin.out
          have hb' : wb = true := congrArg Prod.snd HFin.out
          subst ha
          subst hb'
          rw [hst]
          clear hst HFin
          go_wp2
          all_goals go_ret2
          all_goals exact ⟨rfl, HBw.out⟩
        | cons c r =>
          have ha : wa = refBeg false c r := (congrArg Prod.fst HFin.out).trans (may_out c r)
          have hb' : wb = false := congrArg Prod.snd HFin.out
          subst hb'
          have HBe : Hid (∀ W, Calls Tryz.prog 23 #[.string (str (c :: r)), .bool false] W fun e w' => e = .returned (.bool wa) ∧ Below W.heap.size W w') := fun W => by
            rw [ha]
            exact begins_ref (str (c :: r)) c r (str_data _) (by rw [str_size]; exact hRl) false W
          obtain ⟨tt, htt⟩ : ∃ x, str (c :: r) = x := ⟨_, rfl⟩
          have hsz : ¬ tt.size = 0 := by rw [← htt, str_size]; simp
          obtain ⟨hne, hne'⟩ := toList_neN hsz
          rw [htt] at HBe ⊢
          clear htt HFin ha
          go_wp2_with fail
          refine (HBe.out _).mono ?_
          rintro e w2 ⟨rfl, hb2⟩
          have HB2w : Hid (Below w.heap.size w w2) := HBw.out.trans (hb2.mono HBw.out.size)
          clear hb2
          go_wp2
          all_goals go_ret2
          all_goals exact ⟨rfl, HB2w.out⟩
      · cases R with
        | nil =>
          have hst : str [] = ⟨#[]⟩ := rfl
          have ha : wa = true := congrArg Prod.fst HFin.out
          have hb' : wb = false := congrArg Prod.snd HFin.out
          subst ha
          subst hb'
          rw [hst]
          clear hst HFin
          go_wp2
          all_goals go_ret2
          all_goals exact ⟨rfl, HBw.out⟩
        | cons c r =>
          have ha : wa = refBeg true c r := (congrArg Prod.fst HFin.out).trans (may_in c r)
          have hb' : wb = false := congrArg Prod.snd HFin.out
          subst hb'
          have HBe : Hid (∀ W, Calls Tryz.prog 23 #[.string (str (c :: r)), .bool true] W fun e w' => e = .returned (.bool wa) ∧ Below W.heap.size W w') := fun W => by
            rw [ha]
            exact begins_ref (str (c :: r)) c r (str_data _) (by rw [str_size]; exact hRl) true W
          obtain ⟨tt, htt⟩ : ∃ x, str (c :: r) = x := ⟨_, rfl⟩
          have hsz : ¬ tt.size = 0 := by rw [← htt, str_size]; simp
          obtain ⟨hne, hne'⟩ := toList_neN hsz
          rw [htt] at HBe ⊢
          clear htt HFin ha
          go_wp2_with fail
          refine (HBe.out _).mono ?_
          rintro e w2 ⟨rfl, hb2⟩
          have HB2w : Hid (Below w.heap.size w w2) := HBw.out.trans (hb2.mono HBw.out.size)
          clear hb2
          go_wp2
          all_goals go_ret2
          all_goals exact ⟨rfl, HB2w.out⟩
      · cases R with
        | nil =>
          have hst : str [] = ⟨#[]⟩ := rfl
          have ha : wa = true := congrArg Prod.fst HFin.out
          have hb' : wb = true := congrArg Prod.snd HFin.out
          subst ha
          subst hb'
          rw [hst]
          clear hst HFin
          go_wp2
          all_goals go_ret2
          all_goals exact ⟨rfl, HBw.out⟩
        | cons c r =>
          have ha : wa = false := (congrArg Prod.fst HFin.out).trans (may_over c r)
          have hb' : wb = false := congrArg Prod.snd HFin.out
          subst ha
          subst hb'
          obtain ⟨tt, htt⟩ : ∃ x, str (c :: r) = x := ⟨_, rfl⟩
          have hsz : ¬ tt.size = 0 := by rw [← htt, str_size]; simp
          obtain ⟨hne, hne'⟩ := toList_neN hsz
          rw [htt]
          clear htt HFin
          go_wp2
          all_goals go_ret2
          all_goals exact ⟨rfl, HBw.out⟩

end Go.Proofs.YtplolaondmeccaaGreatDoor

namespace Go.Proofs.YtplolaondmeccaaGreatDoor
open Go.RowKit
set_option linter.unusedVariables false

theorem wireWords_walk (a0 : ByteArray) (hsh : a0.size ≤ 1048576) (w : World) (hE : Env w) (hS : Spaces w) :
    Calls Tryz.prog 5 #[.string a0] w fun e w' => e = .returned (.bool true) ∧ Below w.heap.size w w' := by
  obtain ⟨r, hr⟩ : ∃ r, wordS 0 a0.data.toList = r := ⟨_, rfl⟩
  obtain ⟨a, b⟩ := r
  have HA : Hid (Calls Tryz.prog 6 #[.string a0] w fun e w' => e = .returned (.tuple #[.bool a, .bool b]) ∧ Below w.heap.size w w') := by
    have := word_any a0 (by omega) w hE hS
    rw [hr] at this
    exact this
  have HR : Hid (∀ W, Calls Tryz.prog 10 #[.string a0] W fun e w' => e = .returned (.tuple #[.bool a, .bool b]) ∧ Below W.heap.size W w') := fun W => by
    have := refWord_any a0 hsh W
    rw [hr] at this
    exact this
  clear hr hE hS
  go_enter Tryz.func5, Tryz.ntmps5
  go_wp2_with fail
  refine HA.out.mono ?_
  rintro e w1 ⟨rfl, hb1⟩
  have HB1 : Hid (Below w.heap.size w w1) := hb1
  clear hb1
  go_wp2_with fail
  refine (HR.out _).mono ?_
  rintro e w2 ⟨rfl, hb2⟩
  have HB2 : Hid (Below w.heap.size w w2) := below_step HB1.out hb2
  clear hb2 HA HR
  cases a <;> cases b <;> (go_wp2; go_ret; exact ⟨rfl, HB2.out⟩)

end Go.Proofs.YtplolaondmeccaaGreatDoor
