/-
  Plans: a body is read; what the head of a text is.
  Plans: a text is parsed: its head, its sum, and a layout's text.
-/
import Derived.Test.YtglncninkocgaabGreatDoorCY
import Derived.Defers
import Derived.Recover
import Derived.Laws.Pointers
namespace Go.Proofs.YtglncninkocgaabGreatDoor
open Go.RowKit
set_option linter.unusedVariables false
set_option maxRecDepth 20000

theorem text_box (b : Box) (B : UInt8) (T : List UInt8) : boxT b ++ B :: T = (putL b.w ++ (120 :: (putL b.h ++ (44 :: (putL b.x ++ (44 :: (putL b.y ++ (B :: T)))))))) := by
  unfold boxT
  simp
mutual
theorem cell_all (w0 : World) (hN : NumV w0) : ∀ (t : Tree), t.nums → CellOk w0 t
  | .leaf b p, h => by
    intro W g m sl acc d h0 h1 hl ha hm hR
    have hz : (Tree.leaf b p).size = 1 := rfl
    rw [hz] at h1 ha
    have e : (Tree.leaf b p).text ++ m = boxT b ++ 44 :: (putL p ++ m) := by
      show (boxT b ++ 44 :: putL p) ++ m = _
      simp
    rw [e, text_box] at hR hl
    exact cell_walk w0 hN b h.1 44 (putL p ++ m) m W g sl acc _ d h0 (by omega) (by decide) hl (by omega) (.inl ⟨p, rfl, rfl, h.2, hm, rfl⟩) hR
  | .split b k ts, h => by
    intro W g m sl acc d h0 h1 hl ha hm hR
    obtain ⟨hb, hne, hk, hts⟩ := h
    have hz : (Tree.split b k ts).size = 1 + sizes ts := rfl
    rw [hz] at h1 ha
    have e : (Tree.split b k ts).text ++ m = boxT b ++ openB k :: ((moreT ts).tail ++ shutB k :: m) := by
      show (boxT b ++ openB k :: ((moreT ts).tail ++ [shutB k])) ++ m = _
      simp
    have hall := cells_all w0 hN ts hts
    have hlt : ((moreT ts).tail ++ shutB k :: m).length ≤ 2048 := by rw [e] at hl; simp at hl ⊢; omega
    have et : ∀ kk : Int, acc ++ (Tree.split b kk ts).tell d = (acc ++ [⟨d, kk, b.x, b.y, b.w, b.h, 0⟩]) ++ tellAll ts (d + 1) := fun kk => by
      show acc ++ (⟨d, kk, b.x, b.y, b.w, b.h, 0⟩ :: tellAll ts (d + 1)) = _
      simp
    rw [e, text_box] at hR hl
    rcases hk with rfl | rfl
    · have hp := parts_ok w0 ts 125 (by decide) (by decide) hne hall
      refine cell_walk w0 hN b hb 123 ((moreT ts).tail ++ 125 :: m) m W g sl acc _ d h0 (by omega) (by decide) hl (by omega) (.inr (.inl ⟨rfl, fun X s1 hX => ?_⟩)) hR
      rw [et 2]
      exact hp X g m s1 _ (d + 1) (by omega) (by omega) hlt (by simp; omega) hX
    · have hp := parts_ok w0 ts 93 (by decide) (by decide) hne hall
      refine cell_walk w0 hN b hb 91 ((moreT ts).tail ++ 93 :: m) m W g sl acc _ d h0 (by omega) (by decide) hl (by omega) (.inr (.inr ⟨rfl, fun X s1 hX => ?_⟩)) hR
      rw [et 3]
      exact hp X g m s1 _ (d + 1) (by omega) (by omega) hlt (by simp; omega) hX
theorem cells_all (w0 : World) (hN : NumV w0) : ∀ (ts : List Tree), numsAll ts → ∀ t ∈ ts, CellOk w0 t
  | [], h, t, ht => by cases ht
  | u :: us, h, t, ht => by
    rcases List.mem_cons.1 ht with e | ht
    · rw [e]; exact cell_all w0 hN u h.1
    · exact cells_all w0 hN us h.2 t ht
end

set_option maxHeartbeats 1000000 in
theorem readBody_ok (t : Tree) (w : World) (hN : NumV w) (ht : t.nums) (hs : t.size ≤ 63) (hl : t.text.length ≤ 2048) : Calls Tryz.prog 21 #[.string (str t.text)] w fun e w' => ∃ sl, e = .returned sl ∧ CeOwns w' w.heap.size sl (t.tell 0) ∧ Below w.heap.size w w' := by
  have H0 : Hid (RdAt w (w.alloc (.cells #[.string (str t.text), .slice none 0 0] 69)) w.heap.size (t.text ++ []) (.slice none 0 0) []) := by
    rw [List.append_nil]
    exact ⟨(MapKept.heap_alloc w _).1, World.ownsRow_nil _ _ _ _, (Below.refl _ _).alloc (Nat.le_refl _) _, Nat.le_refl _⟩
  have HC : Hid (Calls Tryz.prog 35 #[.pointer (some ⟨w.heap.size, 0, none⟩), .int .i64 0] (w.alloc (.cells #[.string (str t.text), .slice none 0 0] 69)) fun e w' => e = .returned (.tuple #[]) ∧ ∃ sl', RdAt w w' w.heap.size [] sl' ([] ++ t.tell 0)) :=
    cell_all w hN t ht _ _ [] _ [] 0 (Int.le_refl _) (by omega) (by simpa using hl) (by simp; omega) (fun c r e => by cases e) H0.out
  obtain ⟨s, hsx⟩ : ∃ s, str t.text = s := ⟨_, rfl⟩
  rw [hsx] at HC ⊢
  clear H0 hN ht hs hl hsx
  go_enter Tryz.func21, Tryz.ntmps21
  go_wp2_with (go_at_call 35; refine HC.out.mono ?_; rintro e w1 ⟨rfl, s1, h1⟩; have H1 := hidden h1; have c0 : w1.cell? ⟨w.heap.size, 0, none⟩ = some (.string ⟨#[]⟩) := h1.cells.1; have c1 := h1.cells.2.1; clear h1)
  all_goals go_ret
  exact ⟨_, rfl, ⟨H1.out.own.1, H1.out.own.2.imp id fun ⟨g, cap, cur, a1, a2, a3⟩ => ⟨g, cap, cur, a1, by omega, a3⟩⟩, H1.out.b⟩
end Go.Proofs.YtglncninkocgaabGreatDoor

namespace Go.Proofs.YtglncninkocgaabGreatDoor
open Go.RowKit
set_option linter.unusedVariables false
set_option maxRecDepth 20000

def hexOk (c : UInt8) : Bool := decide (0 ≤ Lib.indexByte hexS.data.toList c)
def headB (l : List UInt8) : Bool := decide (5 ≤ l.length) && (decide (l[4]? = some 44) && (l.take 4).all hexOk)
theorem byte_back (c : UInt8) : ((c.toNat : Int)).toNat.toUInt8 = c := by simp
theorem data_get (s : ByteArray) (k : Nat) (h : k < s.size) : s.data.toList[k]? = some s[k] := by
  have h2 : k < s.data.size := h
  rw [Array.getElem?_toList, Array.getElem?_eq_getElem h2]
  rfl
theorem all_take {l : List UInt8} {n : Nat} (h : ∀ j, j < n → ∃ c, l[j]? = some c ∧ hexOk c = true) : (l.take n).all hexOk = true := by
  rw [List.all_eq_true]
  intro x hx
  obtain ⟨j, hj, e⟩ := List.getElem_of_mem hx
  have hj' : j < n := by rw [List.length_take] at hj; omega
  obtain ⟨c, hc, ho⟩ := h j hj'
  have : (l.take n)[j]? = some x := by rw [List.getElem?_eq_getElem hj, e]
  rw [List.getElem?_take, if_pos hj', hc] at this
  cases this
  exact ho
theorem not_all {l : List UInt8} {n j : Nat} {c : UInt8} (hj : j < n) (hc : l[j]? = some c) (ho : hexOk c = false) : (l.take n).all hexOk = false := by
  have : (l.take n)[j]? = some c := by rw [List.getElem?_take, if_pos hj, hc]
  have hm : c ∈ l.take n := List.mem_of_getElem? this
  rw [Bool.eq_false_iff]
  intro h
  rw [List.all_eq_true] at h
  rw [h c hm] at ho
  cases ho

set_option maxHeartbeats 4000000 in
theorem hasHead_any (s : ByteArray) (w : World) (hs : s.size ≤ 2048) : Calls Tryz.prog 19 #[.string s] w fun e w' => e = .returned (.bool (headB s.data.toList)) ∧ w = w' := by
  obtain ⟨N, hN⟩ : ∃ N, s.size = N := ⟨_, rfl⟩
  have HLen : Hid (s.data.toList.length = N) := by rw [← hN]; exact Array.length_toList
  obtain ⟨R, hR⟩ : ∃ R, headB s.data.toList = R := ⟨_, rfl⟩
  have HR : Hid (headB s.data.toList = R) := hR
  rw [hR]
  by_cases h5 : N < 5
  · have hz : (N : Int) < 5 := by omega
    have e : R = false := by have hlen := HLen.out; rw [← hR]; unfold headB; rw [hlen]; simp; omega
    subst e
    clear hR
    go_enter Tryz.func19, Tryz.ntmps19
    go_wp2
    all_goals go_ret
    all_goals exact ⟨rfl, rfl⟩
  · have hz : ¬ (N : Int) < 5 := by omega
    have h4s : 4 < s.size := by omega
    obtain ⟨x, hx⟩ : ∃ x, s[4]'h4s = x := ⟨_, rfl⟩
    have h4 : s.data.toList[4]? = some x := by rw [data_get s 4 (by omega), hx]
    by_cases hx4 : x = 44
    · subst hx4
      have hv : ((44 : UInt8).toNat : Int) = 44 := rfl
      have HA : Hid (R = (s.data.toList.take 4).all hexOk) := by
        show _ = _
        rw [← hR]
        unfold headB
        rw [h4, HLen.out]
        simp
        omega
      have HI : Hid (∀ c X, Calls Tryz.prog 33 #[.string ⟨#[48, 49, 50, 51, 52, 53, 54, 55, 56, 57, 97, 98, 99, 100, 101, 102]⟩, .int .u8 (c : UInt8).toNat] X fun e w' => e = .returned (.int .i64 (Lib.indexByte hexS.data.toList c)) ∧ X = w') := fun c X => by
        refine (Tryz.strings_IndexByte hexS (c.toNat : Int) X).mono ?_
        rintro e w' ⟨rfl, rfl⟩
        rw [byte_back]
        exact ⟨rfl, rfl⟩
      clear hR
      go_enter Tryz.func19, Tryz.ntmps19
      go_wp2_with fail
      go_loopw [12] (fun v wr => ∃ i : Nat, i ≤ 4 ∧ v = .int .i64 i ∧ w = wr ∧ Hid (∀ j, j < i → ∃ c, s.data.toList[j]? = some c ∧ hexOk c = true)) (fun v _ => 4 - (intOf v).toNat)
      case atStart => exact ⟨0, Nat.zero_le _, rfl, rfl, fun j hj => by omega⟩
      case round =>
        obtain ⟨i, hi, rfl, rfl, HJ⟩ := hrel
        by_cases hlt : i < 4
        · have hzi : (i : Int) < 4 := by omega
          have hzn : (i : Int) < (N : Int) := by omega
          have his : i < s.size := by omega
          obtain ⟨c, hc⟩ : ∃ c, s[i]'his = c := ⟨_, rfl⟩
          have hcl : s.data.toList[i]? = some c := by rw [data_get s i (by omega), hc]
          have HCl := hidden hcl
          obtain ⟨q, hq⟩ : ∃ q, Lib.indexByte hexS.data.toList c = q := ⟨_, rfl⟩
          have HIc : Hid (∀ X, Calls Tryz.prog 33 #[.string ⟨#[48, 49, 50, 51, 52, 53, 54, 55, 56, 57, 97, 98, 99, 100, 101, 102]⟩, .int .u8 (c : UInt8).toNat] X fun e w' => e = .returned (.int .i64 q) ∧ X = w') := fun X => by rw [← hq]; exact HI.out c X
          by_cases hneg : q < 0
          · have HF : Hid (R = false) := by
              show _ = _
              rw [HA.out]
              exact not_all hlt HCl.out (by unfold hexOk; rw [hq]; simp; omega)
            clear hcl hq
            go_wp2_with (go_at_call 33; refine (HIc.out _).mono ?_; rintro e w1 ⟨rfl, rfl⟩)
            all_goals go_ret
            exact ⟨by rw [HF.out]; rfl, rfl⟩
          · have HT : Hid (∀ j, j < i + 1 → ∃ c, s.data.toList[j]? = some c ∧ hexOk c = true) := fun j hj => by
              rcases Nat.lt_or_ge j i with h | h
              · exact HJ.out j h
              · obtain rfl : j = i := by omega
                exact ⟨c, HCl.out, by unfold hexOk; rw [hq]; simp; omega⟩
            clear hcl hq
            go_wp2_with (go_at_call 33; refine (HIc.out _).mono ?_; rintro e w1 ⟨rfl, rfl⟩)
            first
              | (go_roundw
                 case rel => exact ⟨i + 1, by omega, by go_num, rfl, HT⟩
                 case measure => simp [intOf]; omega)
              | exact ⟨⟨i + 1, by omega, by first | rfl | go_num, trivial, HT⟩, by simp [intOf]; omega⟩
        · obtain rfl : i = 4 := by omega
          have HF : Hid (R = true) := by
            show _ = _
            rw [HA.out]
            exact all_take HJ.out
          go_wp2
          all_goals go_ret
          exact ⟨by rw [HF.out]; rfl, rfl⟩
    · have e : R = false := by
        rw [← hR]
        unfold headB
        rw [h4]
        have : ¬ some x = some (44 : UInt8) := fun e => hx4 (Option.some.inj e)
        simp [this]
      subst e
      have hne : ¬ (x.toNat : Int) = 44 := fun e => hx4 (UInt8.toNat_inj.1 (by simpa using (by omega : x.toNat = 44)))
      have hnb : ((x.toNat : Int) != 44) = true := by simpa using hne
      clear hR h4
      go_enter Tryz.func19, Tryz.ntmps19
      go_wp2
      all_goals go_ret
      all_goals exact ⟨rfl, rfl⟩
end Go.Proofs.YtglncninkocgaabGreatDoor
