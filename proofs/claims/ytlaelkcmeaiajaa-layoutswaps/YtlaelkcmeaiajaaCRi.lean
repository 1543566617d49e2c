/-
  Layouts: the document's ids of a node.
  Layouts: the document's sizes of a node.
-/
import Derived.Test.YtlaelkcmeaiajaaCGw
import Derived.Laws.AppendOwnNone
namespace Go.Proofs.Ytlaelkcmeaiajaa
open Go.RowKit
set_option linter.unusedVariables false
set_option maxRecDepth 100000

/-- A whole list, nil or not, appended to what is owned. -/
theorem wpList_append_row {ops : Array Oper} {rest : List Oper} {o : Oper} {a : Act} {Q : Exit → Act → World → Prop} (w : World) (hgd : o.guard = none) (s x : Operand) (t e : TypeId)
    (ho : o.op = .call { callee := .builtin .append, args := #[s, x], argTypes := #[t, t] }) (z : Value) (size bytes : Nat) (ht : Try.prog.underlying t = some (.slice e)) (hinfo : (Try.prog.info? e).map (fun i => (i.zero, i.size, i.bytes)) = some (some z, size, bytes)) (hzs : z.cells.size = size) (hsz : 0 < size) (hby : bytes ≤ 100)
    (B : Nat) (v : Value) (n : Nat) (xs : List Value) (hs : a.eval s = v) (hown : w.ownsRow B e size v n xs) (B' : Nat) (u : Value) (m : Nat) (ys : List Value) (hx : a.eval x = u) (hown' : w.ownsRow B' e size u m ys) (hone : ∀ y ∈ ys, y.oneCell' = true)
    (hlen : n + m ≤ 1000000) (hB : B ≤ w.heap.size)
    (h : ∀ v' w', w'.ownsRow B e size v' (n + m) (xs ++ ys) → w.grownBy w' v.ownBlock → wpList Try.prog ops Q rest (a.put o.dst v') w') : wpList Try.prog ops Q (o :: rest) a w := by
  obtain ⟨i0, hi, hz0, hz1, hz2⟩ := info_partsL hinfo
  rcases hown'.2 with ⟨h0, h1⟩ | ⟨g, cap, cur, hu, hb, hg, hc1, hc2, hc3, hc4⟩
  · subst h0 h1
    have hy : ys = [] := List.length_eq_zero_iff.1 (by have := hown'.1; omega)
    subst hy
    refine wpList_append_own_none hgd s x t ho B e i0 size ht hi v n xs hs hown hx ?_
    exact h v w (by simpa using hown) ⟨rfl, rfl, rfl, Nat.le_refl _, fun _ _ _ => rfl⟩
  · subst hu
    refine wpList_append_own_at _ hgd s x t ho B e i0 z size bytes ht hi hz0 hz1 hz2 hzs hsz v n xs hs hown ⟨g, 0, none⟩ m cap ys hx hown'.1 (World.ownsRow.cells hown' rfl) hone ?_ ?_ hB ?_
    · unfold maxLen; omega
    · exact Nat.le_trans (Nat.mul_le_mul hlen hby) (by decide)
    · intro v' w' h2 h3 _ _
      exact h v' w' h2 h3

mutual
def Node.cnt : Node → Nat
  | .mk _ _ _ _ ks => 1 + cnts ks
def cnts : List Node → Nat
  | [] => 0
  | n :: r => n.cnt + cnts r
end
mutual
theorem ids_cnt : ∀ (n : Node), n.ids.length ≤ n.cnt
  | .mk k w h i ks => by
    have := idsAll_cnt ks
    show (if k = 1 then [i] else idsAll ks).length ≤ 1 + cnts ks
    split
    · show 1 ≤ _
      omega
    · omega
theorem idsAll_cnt : ∀ (ks : List Node), (idsAll ks).length ≤ cnts ks
  | [] => Nat.le_refl _
  | n :: r => by
    have h1 := ids_cnt n
    have h2 := idsAll_cnt r
    show (n.ids ++ idsAll r).length ≤ n.cnt + cnts r
    rw [List.length_append]
    omega
end
theorem idsAll_take : ∀ (ks : List Node) (j : Nat) (n : Node), ks[j]? = some n → idsAll (ks.take (j + 1)) = idsAll (ks.take j) ++ n.ids
  | [], j, n, h => by simp at h
  | a :: ks, 0, n, h => by
    simp at h
    subst h
    show a.ids ++ [] = [] ++ a.ids
    simp
  | a :: ks, j + 1, n, h => by
    show a.ids ++ idsAll (ks.take (j + 1)) = (a.ids ++ idsAll (ks.take j)) ++ n.ids
    rw [idsAll_take ks j n (by simpa using h), List.append_assoc]
theorem cnts_take : ∀ (ks : List Node) (j : Nat) (n : Node), ks[j]? = some n → cnts (ks.take j) + n.cnt ≤ cnts ks
  | [], j, n, h => by simp at h
  | a :: ks, 0, n, h => by
    simp at h
    subst h
    show 0 + a.cnt ≤ a.cnt + cnts ks
    omega
  | a :: ks, j + 1, n, h => by
    have := cnts_take ks j n (by simpa using h)
    show a.cnt + cnts (ks.take j) + n.cnt ≤ a.cnt + cnts ks
    omega
theorem cnts_length : ∀ (ks : List Node), ks.length ≤ cnts ks
  | [] => Nat.le_refl _
  | n :: r => by
    have := cnts_length r
    have h1 : 1 ≤ n.cnt := by cases n; exact Nat.le_add_right _ _
    show r.length + 1 ≤ n.cnt + cnts r
    omega

theorem iowns_made (X : World) (g B : Nat) (hg : X.heap.size = g) (i : Int) (hB : B ≤ g) : IOwns (X.alloc (.cells #[.int .i64 i] 3)) B (.slice (some ⟨g, 0, none⟩) 1 1) [i] := by
  subst hg
  exact ⟨rfl, .inr ⟨X.heap.size, 1, #[.int .i64 i], rfl, hB, heap_alloc_new _ _, Nat.le_refl _, by decide, rfl, rfl⟩⟩
theorem ints_one (zs : List Int) : ∀ y ∈ zs.map (Value.int .i64), y.oneCell' = true := by
  intro y hy
  obtain ⟨z, _, rfl⟩ := List.mem_map.1 hy
  rfl

theorem IOwns.lower {w : World} {B B' : Nat} {v : Value} {l : List Int} (h : IOwns w B v l) (hB : B' ≤ B) : IOwns w B' v l := by
  refine ⟨h.1, ?_⟩
  rcases h.2 with h0 | ⟨g, cap, cur, e, hb, r⟩
  · exact .inl h0
  · exact .inr ⟨g, cap, cur, e, Nat.le_trans hB hb, r⟩

def IdsGood (n : Node) : Prop := ∀ sl fp w, n.In w sl fp → Calls Try.prog 25 #[.agg (nodeV n sl)] w fun e w' => ∃ u, e = .returned u ∧ IOwns w' w.heap.size u n.ids ∧ Below w.heap.size w w'

theorem ids_pane (wd h i : Int) (ks : List Node) (a : Option Addr) (m c : Nat) (w : World) : Calls Try.prog 25 #[.agg #[.int .i64 1, .int .i64 wd, .int .i64 h, .int .i64 i, .slice a m c]] w fun e w' => ∃ u, e = .returned u ∧ IOwns w' w.heap.size u [i] ∧ Below w.heap.size w w' := by
  have HO : Hid (∀ o, IOwns ((w.alloc o).alloc (.cells #[.int .i64 i] 3)) w.heap.size (.slice (some ⟨w.heap.size + 1, 0, none⟩) 1 1) [i]) := fun o => iowns_made (w.alloc o) (w.heap.size + 1) w.heap.size (by simp) i (by omega)
  have HB : Hid (∀ o o', Below w.heap.size w ((w.alloc o).alloc o')) := fun o o' => ((Below.refl _ _).alloc (Nat.le_refl _) _).alloc (by simp) _
  go_enter Try.func25, Try.ntmps25
  go_wp2
  go_ret
  exact ⟨_, rfl, HO.out _, HB.out _ _⟩

set_option maxHeartbeats 2000000 in
theorem ids_split (k wd h i : Int) (ks : List Node) (hk : k ≠ 1) (hc : cnts ks ≤ 1000) (IH : ∀ n ∈ ks, IdsGood n) (sl : Value) (fp : List Nat) (w : World) (hIn : (Node.mk k wd h i ks).In w sl fp) : Calls Try.prog 25 #[.agg (nodeV (.mk k wd h i ks) sl)] w fun e w' => ∃ u, e = .returned u ∧ IOwns w' w.heap.size u (idsAll ks) ∧ Below w.heap.size w w' := by
  obtain ⟨ad, cap, hsl⟩ := hIn.sl
  obtain ⟨m, hm⟩ : ∃ m, ks.length = m := ⟨_, rfl⟩
  change sl = .slice ad ks.length cap at hsl
  have hm2 := cnts_length ks
  have hm3 : m ≤ 1000 := by omega
  have hb0 : ∀ o, Below w.heap.size w (w.alloc o) := fun o => (Below.refl _ _).alloc (Nat.le_refl _) o
  obtain ⟨W, hW⟩ : ∃ W, w.alloc (.cells #[.int .i64 k, .int .i64 wd, .int .i64 h, .int .i64 i, sl] 58) = W := ⟨_, rfl⟩
  have HblkW : W.heap[w.heap.size]? = some (.cells #[.int .i64 k, .int .i64 wd, .int .i64 h, .int .i64 i, sl] 58 (0, 0)) := by rw [← hW]; exact heap_alloc_new _ _
  have HbW : Below w.heap.size w W := by rw [← hW]; exact hb0 _
  have hWs : W.heap.size = w.heap.size + 1 := by rw [← hW]; simp
  have HBlk : Hid (∀ X, Below W.heap.size W X → X.heap[w.heap.size]? = some (.cells #[.int .i64 k, .int .i64 wd, .int .i64 h, .int .i64 i, sl] 58 (0, 0))) := fun X hX => (hX.block _ (by omega)).trans HblkW
  have HB : Hid (∀ X, Below W.heap.size W X → Below w.heap.size w X) := fun X hX => below_step HbW hX
  have HI : Hid ((Node.mk k wd h i ks).In W sl fp) := hIn.below HbW
  have HIH : Hid (∀ n ∈ ks, IdsGood n) := IH
  have HM : Hid (ks.length = m) := hm
  have HC : Hid (cnts ks ≤ 1000) := hc
  have HWs : Hid (W.heap.size = w.heap.size + 1) := hWs
  have HW : Hid (w.alloc (.cells #[.int .i64 k, .int .i64 wd, .int .i64 h, .int .i64 i, sl] 58) = W) := hW
  have kk : (k == 1) = false := by simpa using hk
  rw [hm] at hsl
  subst hsl
  clear hm2 hIn IH hm hc hb0 HblkW HbW hWs hW hk
  show Calls _ _ #[.agg #[.int .i64 k, .int .i64 wd, .int .i64 h, .int .i64 i, .slice ad m cap]] _ _
  go_enter Try.func25, Try.ntmps25
  go_wp2
  rw [HW.out]
  go_loopw [3, 4] (fun u v wr => ∃ j : Nat, j ≤ m ∧ v = .int .i64 j ∧ Hid (IOwns wr W.heap.size u (idsAll (ks.take j))) ∧ Hid (Below W.heap.size W wr)) (fun _ v _ => m - (intOf v).toNat)
  case atStart => exact ⟨0, Nat.zero_le _, rfl, World.ownsRow_nil _ _ _ _, Below.refl _ _⟩
  case round =>
    obtain ⟨j, hj, rfl, HO, HBr⟩ := hrel
    have hbk := HBlk.out wr HBr.out
    have b4 : wr.cell? ⟨w.heap.size, 4, none⟩ = some (.slice ad m cap) := cell_atL hbk 4
    clear hbk
    by_cases hlt : j < m
    · obtain ⟨n, hn⟩ : ∃ n, ks[j]? = some n := ⟨_, List.getElem?_eq_getElem (by rw [HM.out]; exact hlt)⟩
      obtain ⟨g, cap', e1, e2, e3⟩ := (HI.out.below HBr.out).kids (by intro e; rw [e] at hn; simp at hn)
      rw [HM.out] at e1
      cases e1
      obtain ⟨sl', f', e4, q0, q1, q2, q3, q4⟩ := e3 j n hn
      obtain ⟨ad', c', hsl'⟩ := e4.sl
      have HCa : Hid (Calls Try.prog 25 #[.agg (nodeV n sl')] wr fun e w' => ∃ u, e = .returned u ∧ IOwns w' wr.heap.size u n.ids ∧ Below wr.heap.size wr w') := HIH.out n (List.mem_of_getElem? hn) sl' f' wr e4
      have HT : Hid (idsAll (ks.take (j + 1)) = idsAll (ks.take j) ++ n.ids) := idsAll_take ks j n hn
      have HLn : Hid ((idsAll (ks.take j)).length + n.ids.length ≤ 1000000) := by
        have h1 := idsAll_cnt (ks.take j)
        have h2 := ids_cnt n
        have h3 := cnts_take ks j n hn
        have h4 := HC.out
        show _ ≤ _
        omega
      subst hsl'
      unfold nodeV at HCa
      clear e2 e3 e4 hn
      go_wp2_with fail
      refine HCa.out.mono ?_
      rintro e w2 ⟨u2, rfl, h1, h2⟩
      have HU2 : Hid (IOwns w2 wr.heap.size u2 n.ids) := h1
      have HU : Hid (IOwns w2 W.heap.size u3 (idsAll (ks.take j))) := HO.out.below h2
      have HB2 : Hid (Below W.heap.size W w2) := below_step HBr.out h2
      clear h1 h2 HCa
      go_wp2_with (at_builtin; refine wpList_append_row w2 rfl (.tmp 18) (.tmp 24) 61 3 rfl (.int .i64 0) 1 8 Try.underlying61 infoInt rfl (by decide) (by decide) W.heap.size u3 _ _ rfl HU.out wr.heap.size u2 _ _ rfl HU2.out (ints_one _) HLn.out HB2.out.size ?_; intro v' w3 a1 a2'; have hb3 : Below W.heap.size W w3 := HB2.out.grown a2' HB2.out.size (fun q hq => (World.ownsRow.lt HU.out q hq).1); have HB3 : Hid (Below W.heap.size W w3) := hb3; have HO3 : Hid (IOwns w3 W.heap.size v' (idsAll (ks.take (j + 1)))) := (by rw [HT.out]; unfold IOwns; rw [List.map_append, List.length_append]; exact a1); clear a1 a2' hb3)
      go_roundw
      case rel => exact ⟨j + 1, by omega, by go_num, HO3, HB3⟩
      case measure => simp [intOf]; omega
    · go_wp2
      go_ret
      have h := HO.out
      rw [List.take_of_length_le (by rw [HM.out]; omega)] at h
      exact ⟨_, rfl, IOwns.lower h (by have := HWs.out; omega), HB.out _ HBr.out⟩

mutual
theorem ids_good : ∀ (n : Node), n.cnt ≤ 1000 → IdsGood n
  | .mk k wd h i ks, hc => by
    intro sl fp w hIn
    unfold Node.cnt at hc
    by_cases hk : k = 1
    · subst hk
      obtain ⟨a, c, hsl⟩ := hIn.sl
      subst hsl
      have hi : (Node.mk 1 wd h i ks).ids = [i] := by unfold Node.ids; rw [if_pos rfl]
      rw [hi]
      exact ids_pane wd h i ks a _ c w
    · have hi : (Node.mk k wd h i ks).ids = idsAll ks := by unfold Node.ids; rw [if_neg hk]
      rw [hi]
      exact ids_split k wd h i ks hk (by omega) (ids_goods ks (by omega)) sl fp w hIn
theorem ids_goods : ∀ (ks : List Node), cnts ks ≤ 1000 → ∀ n ∈ ks, IdsGood n
  | [], hc => fun n hn => by cases hn
  | a :: ks, hc => fun n hn => by
    unfold cnts at hc
    rcases List.mem_cons.1 hn with e | hn
    · exact e ▸ ids_good a (by omega)
    · exact ids_goods ks (by omega) n hn
end

end Go.Proofs.Ytlaelkcmeaiajaa

namespace Go.Proofs.Ytlaelkcmeaiajaa
open Go.RowKit
set_option linter.unusedVariables false
set_option maxRecDepth 100000

theorem ref_extent (n : Node) (a : Option Addr) (m c : Nat) (d : Int) (w : World) : Calls Try.prog 57 #[.agg (nodeV n (.slice a m c)), .int .i64 d] w fun e w' => e = .returned (.int .i64 (n.ext d)) ∧ Below w.heap.size w w' := by
  have HB : Hid (∀ o, Below w.heap.size w (w.alloc o)) := fun o => (Below.refl _ _).alloc (Nat.le_refl _) _
  obtain ⟨x, hx⟩ : ∃ x, n.ext d = x := ⟨_, rfl⟩
  rw [hx]
  unfold nodeV
  by_cases hd : d = 2
  · have hxx : n.w = x := by rw [← hx]; unfold Node.ext; rw [if_pos hd]
    subst hd
    rw [hxx]
    clear hx hxx
    go_enter Try.func57, Try.ntmps57
    go_wp2
    go_ret
    exact ⟨rfl, HB.out _⟩
  · have hxx : n.h = x := by rw [← hx]; unfold Node.ext; rw [if_neg hd]
    have hd2 : (d == 2) = false := by simpa using hd
    rw [hxx]
    clear hx hxx hd
    go_enter Try.func57, Try.ntmps57
    go_wp2
    go_ret
    exact ⟨rfl, HB.out _⟩

/-- What is asked of a child. -/
def kidOk (n : Node) (k w h : Int) : Bool := (((!decide (n.k = k)) && (decide (n.w ≤ w) && decide (n.h ≤ h))) && (n.ok && (if k = 2 then decide (n.h = h) else decide (n.w = w))))
theorem oksAll_cons (n : Node) (r : List Node) (k w h : Int) : oksAll (n :: r) k w h = (kidOk n k w h && oksAll r k w h) := by
  conv => lhs; unfold oksAll
  rfl
theorem oksAll_at : ∀ (ks : List Node) (k w h : Int) (j : Nat) (n : Node), ks[j]? = some n → oksAll ks k w h = true → kidOk n k w h = true
  | [], k, w, h, j, n, hj, ho => by simp at hj
  | a :: ks, k, w, h, 0, n, hj, ho => by
    simp at hj
    subst hj
    rw [oksAll_cons, Bool.and_eq_true] at ho
    exact ho.1
  | a :: ks, k, w, h, j + 1, n, hj, ho => by
    rw [oksAll_cons, Bool.and_eq_true] at ho
    exact oksAll_at ks k w h j n (by simpa using hj) ho.2
theorem oksAll_take : ∀ (ks : List Node) (k w h : Int) (j : Nat) (n : Node), ks[j]? = some n → oksAll (ks.take j) k w h = true → kidOk n k w h = true → oksAll (ks.take (j + 1)) k w h = true
  | [], k, w, h, j, n, hj, ho, hn => by simp at hj
  | a :: ks, k, w, h, 0, n, hj, ho, hn => by
    simp at hj
    subst hj
    show oksAll [a] k w h = true
    rw [oksAll_cons, hn]
    rfl
  | a :: ks, k, w, h, j + 1, n, hj, ho, hn => by
    change oksAll (a :: ks.take j) k w h = true at ho
    show oksAll (a :: ks.take (j + 1)) k w h = true
    rw [oksAll_cons, Bool.and_eq_true] at ho ⊢
    exact ⟨ho.1, oksAll_take ks k w h j n (by simpa using hj) ho.2 hn⟩
def extS : List Node → Int → Int
  | [], _ => 0
  | n :: r, k => n.ext k + extS r k
theorem extN_eq : ∀ (ks : List Node) (k : Int), extN ks k = ((ks.length : Int) - 1) + extS ks k
  | [], k => rfl
  | n :: r, k => by
    show n.ext k + 1 + extN r k = (((r.length + 1 : Nat) : Int) - 1) + (n.ext k + extS r k)
    rw [extN_eq r k]
    omega
theorem extS_take : ∀ (ks : List Node) (k : Int) (j : Nat) (n : Node), ks[j]? = some n → extS (ks.take (j + 1)) k = extS (ks.take j) k + n.ext k
  | [], k, j, n, h => by simp at h
  | a :: ks, k, 0, n, h => by
    simp at h
    subst h
    show a.ext k + 0 = 0 + a.ext k
    omega
  | a :: ks, k, j + 1, n, h => by
    show a.ext k + extS (ks.take (j + 1)) k = a.ext k + extS (ks.take j) k + n.ext k
    rw [extS_take ks k j n (by simpa using h)]
    omega
theorem ok_sides (n : Node) (h : n.ok = true) : 1 ≤ n.w ∧ 1 ≤ n.h := by
  cases n with
  | mk k w hh i ks =>
    unfold Node.ok at h
    simp only [Bool.and_eq_true, decide_eq_true_eq] at h
    exact ⟨h.1.1.1, h.1.1.2⟩
theorem kid_sides {n : Node} {k w h : Int} (hk : kidOk n k w h = true) (hw : w ≤ 1000) (hh : h ≤ 1000) : 1 ≤ n.ext k ∧ n.ext k ≤ 1000 := by
  unfold kidOk at hk
  simp only [Bool.and_eq_true, decide_eq_true_eq] at hk
  have := ok_sides n hk.2.1
  unfold Node.ext
  split <;> omega
theorem extS_bound : ∀ (ks : List Node) (k w h : Int), oksAll ks k w h = true → w ≤ 1000 → h ≤ 1000 → 0 ≤ extS ks k ∧ extS ks k ≤ 1000 * (ks.length : Int)
  | [], k, w, h, ho, hw, hh => by
    show (0 : Int) ≤ 0 ∧ (0 : Int) ≤ 1000 * 0
    omega
  | n :: r, k, w, h, ho, hw, hh => by
    rw [oksAll_cons, Bool.and_eq_true] at ho
    have h1 := kid_sides ho.1 hw hh
    have h2 := extS_bound r k w h ho.2 hw hh
    show 0 ≤ n.ext k + extS r k ∧ n.ext k + extS r k ≤ 1000 * ((r.length + 1 : Nat) : Int)
    omega

def SizesGood (n : Node) : Prop := ∀ sl fp w, n.In w sl fp → n.w ≤ 1000 → n.h ≤ 1000 → Calls Try.prog 47 #[.agg (nodeV n sl)] w fun e w' => e = .returned (.bool n.ok) ∧ Below w.heap.size w w'

theorem ok_head (k wd h i : Int) (ks : List Node) : (Node.mk k wd h i ks).ok = (((decide (1 ≤ wd) && decide (1 ≤ h)) && (decide (1 ≤ k) && decide (k ≤ 3))) &&
    (if k = 1 then (decide (ks.length = 0) && idB i) else ((decide (2 ≤ ks.length) && decide (i = 0)) && (oksAll ks k wd h && decide (extN ks k = if k = 2 then wd else h))))) := by
  conv => lhs; unfold Node.ok

theorem sizes_head (k wd h i : Int) (ks : List Node) (a : Option Addr) (m c : Nat) (w : World) (hb : ¬ ((1 ≤ wd ∧ 1 ≤ h) ∧ (1 ≤ k ∧ k ≤ 3))) : Calls Try.prog 47 #[.agg #[.int .i64 k, .int .i64 wd, .int .i64 h, .int .i64 i, .slice a m c]] w fun e w' => e = .returned (.bool false) ∧ Below w.heap.size w w' := by
  have HB : Hid (∀ o, Below w.heap.size w (w.alloc o)) := fun o => (Below.refl _ _).alloc (Nat.le_refl _) _
  by_cases a1 : wd < 1
  · clear hb
    go_enter Try.func47, Try.ntmps47
    go_wp2
    go_ret
    exact ⟨rfl, HB.out _⟩
  · by_cases a2 : h < 1
    · clear hb
      go_enter Try.func47, Try.ntmps47
      go_wp2
      go_ret
      exact ⟨rfl, HB.out _⟩
    · by_cases a3 : k < 1
      · clear hb
        go_enter Try.func47, Try.ntmps47
        go_wp2
        go_ret
        exact ⟨rfl, HB.out _⟩
      · have a4 : 3 < k := by omega
        clear hb
        go_enter Try.func47, Try.ntmps47
        go_wp2
        go_ret
        exact ⟨rfl, HB.out _⟩

theorem sizes_pane (wd h i : Int) (a : Option Addr) (m c : Nat) (w : World) (a1 : ¬ wd < 1) (a2 : ¬ h < 1) : Calls Try.prog 47 #[.agg #[.int .i64 1, .int .i64 wd, .int .i64 h, .int .i64 i, .slice a m c]] w fun e w' => e = .returned (.bool (decide (m = 0) && idB i)) ∧ Below w.heap.size w w' := by
  have HB : Hid (∀ o, Below w.heap.size w (w.alloc o)) := fun o => (Below.refl _ _).alloc (Nat.le_refl _) _
  by_cases h0 : m = 0
  · subst h0
    have hi : idB i = (decide (1 ≤ i) && decide (i ≤ 4611686018427387904)) := rfl
    by_cases b1 : 1 ≤ i
    · by_cases b2 : i ≤ 4611686018427387904
      · have HR : Hid (idB i = true) := by show _ = _; rw [hi]; simp [b1, b2]
        clear hi
        go_enter Try.func47, Try.ntmps47
        go_wp2
        go_ret
        exact ⟨by rw [HR.out]; rfl, HB.out _⟩
      · have HR : Hid (idB i = false) := by show _ = _; rw [hi]; simp [b2]
        clear hi
        go_enter Try.func47, Try.ntmps47
        go_wp2
        go_ret
        exact ⟨by rw [HR.out]; rfl, HB.out _⟩
    · have HR : Hid (idB i = false) := by show _ = _; rw [hi]; simp [b1]
      clear hi
      go_enter Try.func47, Try.ntmps47
      go_wp2
      go_ret
      exact ⟨by rw [HR.out]; rfl, HB.out _⟩
  · have HR : Hid (decide (m = 0) = false) := decide_eq_false h0
    have h1 : ((m : Int) == 0) = false := by simp; omega
    clear h0
    go_enter Try.func47, Try.ntmps47
    go_wp2
    go_ret
    exact ⟨by rw [HR.out]; rfl, HB.out _⟩

theorem sizes_few (k wd h i : Int) (a : Option Addr) (m c : Nat) (w : World) (a1 : ¬ wd < 1) (a2 : ¬ h < 1) (hk : k = 2 ∨ k = 3) (hf : m < 2 ∨ i ≠ 0) : Calls Try.prog 47 #[.agg #[.int .i64 k, .int .i64 wd, .int .i64 h, .int .i64 i, .slice a m c]] w fun e w' => e = .returned (.bool false) ∧ Below w.heap.size w w' := by
  have HB : Hid (∀ o, Below w.heap.size w (w.alloc o)) := fun o => (Below.refl _ _).alloc (Nat.le_refl _) _
  by_cases h0 : (m : Int) < 2
  · clear hf
    rcases hk with rfl | rfl
    · go_enter Try.func47, Try.ntmps47
      go_wp2
      go_ret
      exact ⟨rfl, HB.out _⟩
    · go_enter Try.func47, Try.ntmps47
      go_wp2
      go_ret
      exact ⟨rfl, HB.out _⟩
  · have hi : (i != 0) = true := by
      have : i ≠ 0 := by omega
      simpa using this
    clear hf
    rcases hk with rfl | rfl
    · go_enter Try.func47, Try.ntmps47
      go_wp2
      go_ret
      exact ⟨rfl, HB.out _⟩
    · go_enter Try.func47, Try.ntmps47
      go_wp2
      go_ret
      exact ⟨rfl, HB.out _⟩

theorem kid_no {n : Node} {k w h : Int} (hn : ¬ (n.k ≠ k ∧ n.w ≤ w ∧ n.h ≤ h ∧ n.ok = true ∧ (k = 2 → n.h = h) ∧ (k = 3 → n.w = w))) (hk : k = 2 ∨ k = 3) : kidOk n k w h = false := by
  cases hq : kidOk n k w h with
  | false => rfl
  | true =>
    exfalso
    apply hn
    unfold kidOk at hq
    simp only [Bool.and_eq_true, decide_eq_true_eq, Bool.not_eq_true', decide_eq_false_iff_not] at hq
    obtain ⟨⟨h1, h2, h3⟩, h4, h5⟩ := hq
    refine ⟨h1, h2, h3, h4, fun e => ?_, fun e => ?_⟩
    · rw [if_pos e] at h5
      exact of_decide_eq_true h5
    · rw [if_neg (by omega)] at h5
      exact of_decide_eq_true h5
theorem kid_yes {n : Node} {k w h : Int} (h1 : n.k ≠ k) (h2 : n.w ≤ w) (h3 : n.h ≤ h) (h4 : n.ok = true) (h5 : k = 2 → n.h = h) (h6 : k ≠ 2 → n.w = w) : kidOk n k w h = true := by
  unfold kidOk
  by_cases hk : k = 2
  · rw [if_pos hk]
    simp [h1, h2, h4, h5 hk]
  · rw [if_neg hk]
    simp [h1, h3, h4, h6 hk]

end Go.Proofs.Ytlaelkcmeaiajaa
