/-
  Layouts: the law of Close.
-/
import Derived.Test.YtjnmjoigmbpodaaCCr
import Derived.Test.YtjnmjoigmbpodaaCCy
import Derived.Test.YtjnmjoigmbpodaaCWo
import Derived.Test.YtjnmjoigmbpodaaCOp
namespace Go.Proofs.Ytjnmjoigmbpodaa
open Go.RowKit
set_option linter.unusedVariables false
set_option maxRecDepth 100000

theorem laid_long (t : Tree) : (laidL t).length = t.size := by
  unfold laidL
  rw [Tree.tell_length, Tree.size_moved]

theorem close_law (l : List CellV) (q : Int) : ∃ er r, (r : List CellV).length ≤ 63 ∧ (∀ v X, CellsIn X v l → Calls Try.prog 12 #[v, .int .i64 q] X (Ans2 er r X)) ∧ (∀ v X, CellsIn X v l → Calls Try.prog 13 #[v, .int .i64 q] X (Ans2 er r X)) := by
  cases hF : readF l with
  | none => exact ⟨40, [], by simp, fun v X h => cloP_none v l q X h hF, fun v X h => cloR_none v l q X h hF⟩
  | some t =>
    have hl := readF_lay hF
    have hid : t.idl = idsOf l := by rw [idl_told t 0 hl.kinds, hl.tell]
    have hz := lay_size hl
    have hi := lay_ids hF
    have hsi := size_ids t hl.kinds hl.sound
    cases hp : t.path q with
    | none =>
      have hno : q ∉ idsOf l := by rw [← hid]; exact (path_mem t q).1 hp
      exact ⟨42, [], by simp, fun v X h => cloP_miss v l q X h hF hp, fun v X h => cloR_some v l q X h hF 42 [] (.inl ⟨hno, rfl, rfl⟩)⟩
    | some ps =>
      have hin : q ∈ idsOf l := by
        rw [← hid]
        refine Classical.byContradiction fun hx => ?_
        rw [(path_mem t q).2 hx] at hp
        cases hp
      cases t with
      | leaf b p =>
        have e : ps = [] := by
          unfold Tree.path at hp
          split at hp
          · cases hp
            rfl
          · cases hp
        subst e
        exact ⟨46, [], by simp, fun v X h => cloP_last v l q X h hF hp, fun v X h => cloR_some v l q X h hF 46 [] (.inr (.inl ⟨hin, by rw [← hid]; rfl, rfl, rfl⟩))⟩
      | split b k ts =>
        have hne : ps ≠ [] := by
          intro e
          subst e
          have hp' := hp
          unfold Tree.path at hp'
          obtain ⟨i', s, ps', e, _⟩ := pathAll_inv q ts 0 _ hp'
          cases e
        obtain ⟨t', hC⟩ := close_any q ps _ hl.sound hl.kinds (by omega) (by rw [hid]; exact hi.2.2.2.1) hp hne
        have hz2 := hC.size
        have hlen : (idsOf l).length ≠ 1 := by
          have h2 : 2 ≤ ts.length := by
            have hs := hl.sound
            unfold Tree.sound at hs
            simp only [Bool.and_eq_true, decide_eq_true_eq] at hs
            exact hs.1.1
          have h3 := length_sizes ts
          have h4 : (Tree.split b k ts).size = 1 + sizes ts := rfl
          rw [hi.1] at hsi
          omega
        exact ⟨0, laidL t', by rw [laid_long]; omega, fun v X h => cloP_ok v l q X h hF hp hC, fun v X h => cloR_some v l q X h hF 0 _ (.inr (.inr ⟨hin, hlen, rfl, t', rfl, hC.sound, hC.kinds, by omega, hC.shut, b, k, ts, rfl⟩))⟩

set_option maxHeartbeats 1000000 in
theorem closes_walk (v : Value) (l : List CellV) (pa : Int) (w : World) (hv : CellsIn w v l) (hnil : v = .slice none 0 0 ∨ ∃ a n c, v = .slice (some a) n c) (hlen : l.length * 56 ≤ 140737488351232) : Calls Try.prog 4 #[v, .int .i64 pa] w fun x w' => x = .returned (.bool true) ∧ Below w.heap.size w w' := by
  have HTw : Hid (Calls Try.prog 6 #[v] w fun e w' => ∃ g cap, e = .returned (.slice (some ⟨g, 0, none⟩) l.length cap) ∧ TwinAt w' g cap l ∧ w.heap.size ≤ g ∧ Below w.heap.size w w') := twin_any v l w hv hnil hlen
  obtain ⟨er, r, hrl, hPa, hRa⟩ := close_law l pa
  have HP : Hid (∀ u X, CellsIn X u l → Calls Try.prog 12 #[u, .int .i64 pa] X fun x w' => ∃ q, x = .returned (.tuple #[q, .int .i64 er]) ∧ CeOwns w' X.heap.size q r ∧ Below X.heap.size X w') := hPa
  have HR : Hid (∀ X, Below w.heap.size w X → Calls Try.prog 13 #[v, .int .i64 pa] X fun x w' => ∃ q, x = .returned (.tuple #[q, .int .i64 er]) ∧ CeOwns w' X.heap.size q r ∧ Below X.heap.size X w') := fun X hX => hRa v X (hv.below hX)
  have HW : Hid (∀ W, Calls Try.prog 9 #[] W fun e w' => e = .returned (.bool true) ∧ Below W.heap.size W w') := works_true
  have HK : Hid (∀ g cap X, TwinAt X g cap l → Below w.heap.size w X → Calls Try.prog 11 #[.slice (some ⟨g, 0, none⟩) l.length cap, v] X fun e w' => e = .returned (.bool true) ∧ Below X.heap.size X w') := fun g cap X hT hX => kept_any v g cap l X hT (hv.below hX) hlen
  have HS : Hid (∀ u v W, CellsIn W u r → CellsIn W v r → Calls Try.prog 10 #[u, v] W fun e w' => e = .returned (.bool true) ∧ Below W.heap.size W w') := fun u v W h1 h2 => by
    have := law_any u v _ _ W h1 h2 (by omega)
    rw [decide_eq_true rfl] at this
    exact this
  obtain ⟨L, hL⟩ : ∃ L, l.length = L := ⟨_, rfl⟩
  rw [hL] at HTw HK
  have HL : Hid (l.length = L) := hL
  clear hv hnil hlen hL hrl hPa hRa
  go_enter Try.func4, Try.ntmps4
  go_wp2_with fail
  refine HTw.out.mono ?_
  rintro x w1 ⟨g, cap, rfl, hT, _, hb1⟩
  have H1 : Hid (TwinAt w1 g cap l ∧ Below w.heap.size w w1) := ⟨hT, hb1⟩
  have HP1 : Hid (Calls Try.prog 12 #[.slice (some ⟨g, 0, none⟩) L cap, .int .i64 pa] w1 fun x w' => ∃ q, x = .returned (.tuple #[q, .int .i64 er]) ∧ CeOwns w' w1.heap.size q r ∧ Below w1.heap.size w1 w') := HP.out _ w1 (by have := hT.cellsIn; rw [HL.out] at this; exact this)
  clear hT hb1 HTw HP
  go_wp2_with fail
  refine HP1.out.mono ?_
  rintro x w2 ⟨q, rfl, hq, hb2⟩
  have H2 : Hid (TwinAt w2 g cap l ∧ Below w.heap.size w w2 ∧ CellsIn w2 q r) := ⟨H1.out.1.below hb2, below_step H1.out.2 hb2, hq.cellsIn⟩
  clear hb2 H1 HP1 hq
  go_wp2_with fail
  refine (HR.out _ H2.out.2.1).mono ?_
  rintro x w3 ⟨q', rfl, hq', hb3⟩
  have H3 : Hid (TwinAt w3 g cap l ∧ Below w.heap.size w w3 ∧ CellsIn w3 q r ∧ CellsIn w3 q' r) := ⟨H2.out.1.below hb3, below_step H2.out.2.1 hb3, H2.out.2.2.below hb3, hq'.cellsIn⟩
  clear hb3 H2 HR hq'
  go_wp2_with fail
  refine (HW.out _).mono ?_
  rintro x w4 ⟨rfl, hb4⟩
  have H4 : Hid (TwinAt w4 g cap l ∧ Below w.heap.size w w4 ∧ CellsIn w4 q r ∧ CellsIn w4 q' r) := ⟨H3.out.1.below hb4, below_step H3.out.2.1 hb4, H3.out.2.2.1.below hb4, H3.out.2.2.2.below hb4⟩
  clear hb4 H3 HW
  go_wp2_with fail
  refine (HS.out _ _ _ H4.out.2.2.1 H4.out.2.2.2).mono ?_
  rintro x w5 ⟨rfl, hb5⟩
  have H5 : Hid (TwinAt w5 g cap l ∧ Below w.heap.size w w5) := ⟨H4.out.1.below hb5, below_step H4.out.2.1 hb5⟩
  clear hb5 H4 HS
  go_wp2_with fail
  refine (HK.out _ _ _ H5.out.1 H5.out.2).mono ?_
  rintro x w6 ⟨rfl, hb6⟩
  have H6 : Hid (Below w.heap.size w w6) := below_step H5.out.2 hb6
  clear hb6 H5
  go_wp2
  go_ret
  exact ⟨rfl, H6.out⟩

end Go.Proofs.Ytjnmjoigmbpodaa
