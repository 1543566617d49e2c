/-
  The walk of WireTexts.
-/
import Derived.Test.YtlgkdnmhoboinaaGreatDoorRTe
import Derived.Test.YtlgkdnmhoboinaaGreatDoorWOpen
import Derived.Test.YtlgkdnmhoboinaaGreatDoorWPieceW
namespace Go.Proofs.YtlgkdnmhoboinaaGreatDoor
open Go.RowKit
set_option linter.unusedVariables false
set_option maxRecDepth 20000

theorem evs_made (w : World) : EvOwns (w.alloc (.cells #[] 28)) w.heap.size (.slice (some ⟨w.heap.size, 0, none⟩) 0 0) [] :=
  ⟨rfl, .inr ⟨w.heap.size, 0, #[], rfl, Nat.le_refl _, heap_alloc_new w _, Nat.le_refl _, Nat.zero_le _, rfl, rfl⟩⟩

/-- A list that is handed in, behind a list of one's own. -/
theorem wpList_append_arg {ops : Array Oper} {rest : List Oper} {o : Oper} {a : Act} {Q : Exit → Act → World → Prop} (w : World) (hgd : o.guard = none) (s x : Operand)
    (ho : o.op = .call { callee := .builtin .append, args := #[s, x], argTypes := #[22, 22] })
    (B : Nat) (v : Value) (l : List Ev) (hs : a.eval s = v) (hown : EvOwns w B v l) (u : Value) (l' : List Ev) (hx : a.eval x = u) (harg : EvArg w u l') (hz : ∀ n c, u = .slice none n c → c = 0)
    (hlen : l.length + l'.length ≤ 16777216) (hB : B ≤ w.heap.size)
    (h : ∀ v' w', EvOwns w' B v' (l ++ l') → w.grownBy w' v.ownBlock → wpList Tryz.prog ops Q rest (a.put o.dst v') w') : wpList Tryz.prog ops Q (o :: rest) a w := by
  obtain ⟨i0, hi, hz0, hz1, hz2⟩ := info_parts infoEv
  have key : ∀ (ad : Addr) (m c : Nat), u = .slice (some ad) m c → l'.length = m → (∀ j u, (evCells l')[j]? = some u → w.cell? (ad.add j) = some u) → wpList Tryz.prog ops Q (o :: rest) a w := fun ad m c hu hm hc => by
    subst hm
    refine wpList_append_own _ hgd s x 22 ho B 28 i0 (.agg (Ev.zero 0).vals) 14 144 Tryz.underlying22 hi hz0 hz1 hz2 rfl (by decide) v l.length (evCells l) hs hown ad l'.length c (evCells l') (hx.trans hu) (evCells_length l') hc (evCells_one l') ?_ ?_ hB ?_
    · unfold maxLen; omega
    · omega
    · intro v' w' h2 h3 _
      refine h v' w' ?_ h3
      unfold EvOwns
      rw [evCells_append, List.length_append]
      exact h2
  rcases harg with ⟨⟨ad, c, rfl⟩, rfl⟩ | ⟨b, o', c, rfl, _, hrow⟩
  · cases ad with
    | none =>
      have hc0 := hz 0 c rfl
      subst hc0
      refine wpList_append_own_none hgd s x 22 ho B 28 i0 14 Tryz.underlying22 hi v l.length (evCells l) hs hown hx ?_
      exact h v w (by rw [List.append_nil]; exact hown) ⟨rfl, rfl, rfl, Nat.le_refl _, fun _ _ _ => rfl⟩
    | some ad => exact key ad 0 c rfl rfl (fun j u hu => by cases hu)
  · exact key ⟨b, o', none⟩ l'.length c rfl rfl (fun j u hu => by
      have hadd : (⟨b, o', none⟩ : Addr).add j = ⟨b, o' + j, none⟩ := by
        by_cases hj : j = 0
        · subst hj; simp [Addr.add]
        · simp [Addr.add, hj]
      rw [hadd]
      exact hrow j u hu)

theorem textOut_pair (t : Option (List UInt8)) : ∃ (s : ByteArray) (n : Int), textOut t = .tuple #[.string s, .int .i64 n] := by
  cases t with
  | none => exact ⟨_, _, rfl⟩
  | some t => exact ⟨_, _, rfl⟩

set_option maxHeartbeats 1000000 in
theorem wireTexts_walk (l : List Ev) (hfit : ∀ e ∈ l, e.Fits) (hm : l.length ≤ 1048576) (v : Value) (w : World) (hE : Env w) (ha : EvArg w v l) (hz : ∀ n c, v = .slice none n c → c = 0) :
    Calls Tryz.prog 6 #[v] w fun e w' => e = .returned (.bool true) ∧ Below w.heap.size w w' := by
  obtain ⟨s, n, hsn⟩ := textOut_pair (textS l)
  have HA : Hid (∀ W, Below w.heap.size w W → EvArg W v l) := fun W hW => ha.below hW
  have HE : Hid (∀ W, Below w.heap.size w W → Env W) := fun W h => hE.below h
  have HT : Hid (∀ W, Below w.heap.size w W → Calls Tryz.prog 9 #[v] W fun e w' => e = .returned (.tuple #[.string s, .int .i64 n]) ∧ Below W.heap.size W w') := fun W hW => by
    have := text_all l hfit hm v W (hE.below hW) (ha.below hW)
    rw [hsn] at this
    exact this
  have HR : Hid (∀ W B u, EvOwns W B u l → Calls Tryz.prog 17 #[u] W fun e w' => e = .returned (.tuple #[.string s, .int .i64 n]) ∧ Below W.heap.size W w') := fun W B u hu => by
    have := refText_any l hfit hm u W (EvArg.of_owns hu)
    rw [hsn] at this
    exact this
  have HS : Hid (∀ W B u, Below w.heap.size w W → EvOwns W B u l → Calls Tryz.prog 13 #[v, u] W fun e w' => e = .returned (.bool true) ∧ Below W.heap.size W w') := fun W B u hW hu => by
    refine (same_all l l (by omega) (by omega) v u W (ha.below hW) (EvArg.of_owns hu)).mono ?_
    rintro e w' ⟨r, rfl, hr, hb⟩
    rw [hr.2 rfl]
    exact ⟨rfl, hb⟩
  have HZ : Hid (∀ n c, v = .slice none n c → c = 0) := hz
  have HM : Hid (EvOwns (w.alloc (.cells #[] 28)) w.heap.size (.slice (some ⟨w.heap.size, 0, none⟩) 0 0) []) := evs_made w
  have HB0 : Hid (Below w.heap.size w (w.alloc (.cells #[] 28))) := below1 _ _
  have hlen : ([] : List Ev).length + l.length ≤ 16777216 := by simp; omega
  clear hE ha hz hsn hfit hm
  go_enter Tryz.func6, Tryz.ntmps6
  go_wp2_with (at_builtin; refine wpList_append_arg _ rfl (.tmp 8) (.tmp 9) rfl w.heap.size _ [] rfl HM.out _ l rfl (HA.out _ HB0.out) HZ.out hlen (by simp) ?_; intro v1 w1 hown1 hg1; have HB1 : Hid (Below w.heap.size w w1) := HB0.out.trans (below_of_grown hg1 (by simp) (Nat.le_refl _)); have HO1 : Hid (EvOwns w1 w.heap.size v1 l) := hown1; clear hown1 hg1)
  refine (HT.out _ HB1.out).mono ?_
  rintro e w2 ⟨rfl, hb2⟩
  have HB2 : Hid (Below w.heap.size w w2) := below_step HB1.out hb2
  have HO2 : Hid (EvOwns w2 w.heap.size v1 l) := HO1.out.below hb2
  clear hb2
  go_wp2_with fail
  refine (HR.out _ _ _ HO2.out).mono ?_
  rintro e w3 ⟨rfl, hb3⟩
  have HB3 : Hid (Below w.heap.size w w3) := below_step HB2.out hb3
  have HO3 : Hid (EvOwns w3 w.heap.size v1 l) := HO2.out.below hb3
  clear hb3
  go_wp2_with fail
  refine (HS.out _ _ _ HB3.out HO3.out).mono ?_
  rintro e w4 ⟨rfl, hb4⟩
  have HB4 : Hid (Below w.heap.size w w4) := below_step HB3.out hb4
  clear hb4
  go_wp2_with fail
  refine (sure_any _ (HE.out _ HB4.out)).mono ?_
  rintro e w5 ⟨rfl, hb5⟩
  have HB5 : Hid (Below w.heap.size w w5) := below_step HB4.out hb5
  clear hb5
  go_wp2
  go_ret
  exact ⟨rfl, HB5.out⟩

set_option maxRecDepth 100000 in
open Go.ChangeShapes Go.WideShapes in
theorem open_zero {H : Type} {enc : TypeId × Value → H} {W : World} {r : Reach} {b0 base : Nat} {spare : Nat → Bool} {held : Bool} {v : Value} {d : DataW H} {p : List MemPlace} (hv : Value.okWide Tryz.prog W r b0 22 v) (h : DataW.Trod enc Tryz.prog W base spare held 22 v d p) :
    ∀ n c, v = .slice none n c → c = 0 := by
  obtain ⟨ad, len, cap, rfl⟩ := okWide_slice Tryz.underlying22 hv
  obtain ⟨fuel, hf⟩ := h
  rcases Deep.open_slice Tryz.underlying22 hf with ⟨h0, hx⟩ | ⟨a, len', cap', m, n, D, Pl, h0, hb, hl, hm, hmm, hx, hall⟩
  · simp [Value.cells] at h0
    obtain ⟨rfl, rfl, rfl⟩ := h0
    intro n c e
    cases e
    rfl
  · simp [Value.cells] at h0
    obtain ⟨rfl, rfl, rfl⟩ := h0
    intro n c e
    cases e

end Go.Proofs.YtlgkdnmhoboinaaGreatDoor
