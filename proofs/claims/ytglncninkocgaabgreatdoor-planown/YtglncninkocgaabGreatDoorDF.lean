/-
  Plans: a list's parts by their places, by plain functions.
  Plans: the document's text of a layout.
-/
import Derived.Test.YtglncninkocgaabGreatDoorCV
import Derived.Test.YtglncninkocgaabGreatDoorCE
import Derived.Test.YtglncninkocgaabGreatDoorCX
import Derived.Test.YtglncninkocgaabGreatDoorDC
import Derived.Deep.RegionHeld3
import Derived.BigQuiet
namespace Go.Proofs.YtglncninkocgaabGreatDoor
open Go.RowKit
set_option linter.unusedVariables false

/-- A part of a list of cells stands at a place. -/
def Stands (l : List CellV) (i : Nat) (t : Tree) (d : Int) : Prop := ∃ pre post, l = pre ++ (t.tell d ++ post) ∧ pre.length = i ∧ ∀ c r, post = c :: r → c.depth ≤ d
def Tree.headC : Tree → Int → CellV
  | .leaf b p, d => ⟨d, 1, b.x, b.y, b.w, b.h, p⟩
  | .split b k _, d => ⟨d, k, b.x, b.y, b.w, b.h, 0⟩
theorem tell_cons (t : Tree) (d : Int) : ∃ r, t.tell d = t.headC d :: r := by cases t <;> exact ⟨_, rfl⟩
theorem headC_depth (t : Tree) (d : Int) : (t.headC d).depth = d := by cases t <;> rfl
theorem tail_deep (t : Tree) (d : Int) (hs : t.sound = true) (hk : t.kinds) : ∀ c r, t.tell d = c :: r → ∀ x ∈ r, d < x.depth := by
  intro c r e x hx
  cases t with
  | leaf b p => cases e; cases hx
  | split b k ts =>
    cases e
    unfold Tree.sound at hs
    simp only [Bool.and_eq_true] at hs
    have := (fit_tells ts b k (d + 1) x hs.2.1 hk.2 hx).2.1
    omega
theorem stands_in {l : List CellV} {i : Nat} {t : Tree} {d : Int} (hs : t.sound = true) (hk : t.kinds) (h : Stands l i t d) :
    l[i]? = some (t.headC d) ∧ (∀ j c, i < j → j < i + t.size → l[j]? = some c → d < c.depth) ∧ (∀ c, l[i + t.size]? = some c → c.depth ≤ d) ∧ i + t.size ≤ l.length := by
  obtain ⟨pre, post, rfl, rfl, hp⟩ := h
  have hl := t.tell_length d
  obtain ⟨r, hr⟩ := tell_cons t d
  refine ⟨?_, ?_, ?_, ?_⟩
  · rw [List.getElem?_append_right (Nat.le_refl _), Nat.sub_self, hr]
    rfl
  · intro j c h1 h2 hc
    rw [List.getElem?_append_right (by omega), List.getElem?_append_left (by omega), hr] at hc
    obtain ⟨q, hq⟩ : ∃ q, j - pre.length = q + 1 := ⟨j - pre.length - 1, by omega⟩
    rw [hq, List.getElem?_cons_succ] at hc
    exact tail_deep t d hs hk _ r hr c (List.mem_of_getElem? hc)
  · intro c hc
    rw [List.getElem?_append_right (by omega), List.getElem?_append_right (by omega), show pre.length + t.size - pre.length - (t.tell d).length = 0 by omega] at hc
    cases post with
    | nil => cases hc
    | cons y q =>
      have e : y = c := Option.some.inj hc
      rw [← e]
      exact hp y q rfl
  · simp only [List.length_append]
    omega
theorem tellAll_appN : ∀ (a b : List Tree) (d : Int), tellAll (a ++ b) d = tellAll a d ++ tellAll b d
  | [], b, d => rfl
  | t :: a, b, d => by
    show t.tell d ++ tellAll (a ++ b) d = (t.tell d ++ tellAll a d) ++ tellAll b d
    rw [tellAll_appN a b d, List.append_assoc]
theorem sizes_appN : ∀ (a b : List Tree), sizes (a ++ b) = sizes a + sizes b
  | [], b => by show sizes b = 0 + sizes b; omega
  | t :: a, b => by
    show t.size + sizes (a ++ b) = t.size + sizes a + sizes b
    rw [sizes_appN a b]; omega
theorem moreT_app : ∀ (a b : List Tree), moreT (a ++ b) = moreT a ++ moreT b
  | [], b => rfl
  | t :: a, b => by
    show 44 :: (t.text ++ moreT (a ++ b)) = 44 :: (t.text ++ moreT a) ++ moreT b
    rw [moreT_app a b]; simp
theorem stands_part {l : List CellV} {i : Nat} {b : Box} {k : Int} {ts1 us : List Tree} {u : Tree} {d : Int} (h : Stands l i (.split b k (ts1 ++ u :: us)) d) : Stands l (i + 1 + sizes ts1) u (d + 1) := by
  obtain ⟨pre, post, rfl, rfl, hp⟩ := h
  refine ⟨pre ++ (⟨d, k, b.x, b.y, b.w, b.h, 0⟩ :: tellAll ts1 (d + 1)), tellAll us (d + 1) ++ post, ?_, ?_, ?_⟩
  · show pre ++ (⟨d, k, b.x, b.y, b.w, b.h, 0⟩ :: tellAll (ts1 ++ u :: us) (d + 1) ++ post) = _
    rw [tellAll_appN, show tellAll (u :: us) (d + 1) = u.tell (d + 1) ++ tellAll us (d + 1) from rfl]
    simp
  · simp [tellAll_length]; omega
  · intro c r e
    cases us with
    | nil => have := hp c r e; omega
    | cons v vs =>
      obtain ⟨q, hq⟩ := tell_cons v (d + 1)
      rw [show tellAll (v :: vs) (d + 1) = v.tell (d + 1) ++ tellAll vs (d + 1) from rfl, hq] at e
      simp only [List.cons_append, List.cons.injEq] at e
      rw [← e.1, headC_depth]
      omega
mutual
theorem text_size : ∀ (t : Tree), t.text.length + 1 ≤ 200 * t.size
  | .leaf b p => by
    show (boxT b ++ 44 :: putL p).length + 1 ≤ 200 * 1
    have h1 := boxT_length b
    have h2 := putL_length p
    simp
    omega
  | .split b k ts => by
    show (boxT b ++ openB k :: ((moreT ts).tail ++ [shutB k])).length + 1 ≤ 200 * (1 + sizes ts)
    have h1 := boxT_length b
    have h2 := more_size ts
    have h3 : (moreT ts).tail.length ≤ (moreT ts).length := by rw [List.length_tail]; omega
    simp only [List.length_append, List.length_cons, List.length_nil]
    omega
theorem more_size : ∀ (ts : List Tree), (moreT ts).length ≤ 200 * sizes ts
  | [] => Nat.zero_le _
  | t :: ts => by
    show (44 :: (t.text ++ moreT ts)).length ≤ 200 * (t.size + sizes ts)
    have h1 := text_size t
    have h2 := more_size ts
    simp only [List.length_append, List.length_cons]
    omega
end
end Go.Proofs.YtglncninkocgaabGreatDoor

namespace Go.Proofs.YtglncninkocgaabGreatDoor
open Go.RowKit
set_option linter.unusedVariables false
set_option maxRecDepth 20000

set_option maxHeartbeats 1000000 in
theorem behind_ok (b o cp n : Nat) (l : List CellV) (w : World) (hs : SeenIn w b o l) (hn : l.length = n) (hn1 : n ≤ 1000) (i m : Nat) (c0 : CellV) (d : Int) (h0 : l[i]? = some c0) (hd : c0.depth = d) (hin : ∀ j c, i < j → j < i + m → l[j]? = some c → d < c.depth) (hend : ∀ c, l[i + m]? = some c → c.depth ≤ d) (hm : 1 ≤ m) (hle : i + m ≤ n) :
    Calls Tryz.prog 28 #[.slice (some ⟨b, o, none⟩) n cp, .int .i64 i] w fun e w' => e = .returned (.int .i64 ((i + m : Nat) : Int)) ∧ Below w.heap.size w w' := by
  have HS := hidden hs
  have HN := hidden hn
  have HI := hidden hin
  have HE := hidden hend
  have H0 := hidden h0
  have HD := hidden hd
  have hiz : (i : Int) < (n : Int) := by omega
  clear hs hn hin hend h0 hd
  go_enter Tryz.func28, Tryz.ntmps28
  go_wp2
  go_loopw [5] (fun v wr => ∃ j : Nat, i < j ∧ j ≤ i + m ∧ v = .int .i64 j ∧ Hid (Below w.heap.size w wr)) (fun v _ => i + m - (intOf v).toNat)
  case atStart => exact ⟨i + 1, by omega, by omega, by first | rfl | go_num, Below.refl _ _⟩
  case round =>
    obtain ⟨j, hj1, hj2, rfl, HB⟩ := hrel
    obtain ⟨p0, p1, p2, p3, p4, p5, p6⟩ := (HS.out.below HB.out) i c0 H0.out
    rw [HD.out] at p0
    by_cases hlt : j < n
    · obtain ⟨c, hc⟩ : ∃ c, l[j]? = some c := ⟨_, List.getElem?_eq_getElem (by rw [HN.out]; exact hlt)⟩
      obtain ⟨q0, q1, q2, q3, q4, q5, q6⟩ := (HS.out.below HB.out) j c hc
      obtain ⟨e, he⟩ : ∃ e, c.depth = e := ⟨_, rfl⟩
      rw [he] at q0
      have hjz : (j : Int) < (n : Int) := by omega
      by_cases hj : j < i + m
      · have hde : d < e := by rw [← he]; exact HI.out j c hj1 hj hc
        clear he hc p1 p2 p3 p4 p5 p6 q1 q2 q3 q4 q5 q6
        go_wp2
        go_quiet (fail)
        go_wp2
        first
          | (go_roundw
             case rel => exact ⟨j + 1, by omega, by omega, by first | rfl | go_num, below_drewN HB.out _⟩
             case measure => simp [intOf]; omega)
          | exact ⟨⟨j + 1, by omega, by omega, by first | rfl | go_num, below_drewN HB.out _⟩, by simp [intOf]; omega⟩
      · have HJ : Hid (j = i + m) := by show _ = _; omega
        have hde : ¬ d < e := by have := HE.out c (by rw [← HJ.out]; exact hc); omega
        clear hj hj2 he hc p1 p2 p3 p4 p5 p6 q1 q2 q3 q4 q5 q6
        go_wp2
        go_quiet (fail)
        go_wp2
        go_ret
        exact ⟨by first | (rw [HJ.out]; done) | (rw [HJ.out]; push_cast; rfl) | (have := HJ.out; simp only [Ending.returned.injEq, Value.int.injEq, true_and]; omega), below_drewN HB.out _⟩
    · have HJ : Hid (j = i + m) := by show _ = _; omega
      have hjz : ¬ (j : Int) < (n : Int) := by omega
      clear hj2 p1 p2 p3 p4 p5 p6
      go_wp2
      go_quiet (fail)
      go_wp2
      go_ret
      exact ⟨by first | (rw [HJ.out]; done) | (rw [HJ.out]; push_cast; rfl) | (have := HJ.out; simp only [Ending.returned.injEq, Value.int.injEq, true_and]; omega), below_drewN HB.out _⟩
end Go.Proofs.YtglncninkocgaabGreatDoor
