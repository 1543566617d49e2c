/-
  Layouts: take, of every list.
-/
import Derived.Test.YtcjcekaahooamaaLTakeM
namespace Go.Proofs.Ytcjcekaahooamaa
open Go.RowKit
set_option linter.unusedVariables false
set_option maxRecDepth 100000

theorem take_any : ∀ (m : Nat) (l : List CellV) (v : Value) (d : Int) (W0 w : World), l.length ≤ m → (0 ≤ d ∧ d + l.length ≤ 1000) → Below W0.heap.size W0 w → CellsIn W0 v l → Calls Try.prog 18 #[v, .int .i64 d] w (TakeGood W0 l v d w)
  | m, [], v, d, W0, w, hm, hd, hW, hv => by
    exact (take_none v [] d w (hv.below hW) (.inl rfl)).mono fun e w' h => .inl ⟨takeF_nil d, h.1, h.2 ▸ Below.refl _ _⟩
  | 0, c :: l, v, d, W0, w, hm, hd, hW, hv => by
    simp at hm
  | m + 1, c :: l, v, d, W0, w, hm, hd, hW, hv => by
    have hF := takeF_cons c l d
    rw [List.length_cons] at hm hd
    by_cases hdep : c.depth = d
    · rw [if_pos hdep] at hF
      subst hdep
      by_cases h1 : c.kind = 1
      · rw [if_pos h1] at hF
        refine (take_leaf v c l W0 w hW hv h1).mono fun e w' h => ?_
        obtain ⟨g, v', e1, e2, e3, e4, e5⟩ := h
        exact .inr ⟨_, _, _, g, [g], v', hF, e1, ⟨g, rfl, e3, rfl⟩, by simp, by simpa using e2, e4, e5⟩
      · rw [if_neg h1] at hF
        by_cases h23 : c.kind = 2 ∨ c.kind = 3
        · rw [if_pos h23] at hF
          refine (take_split v c l W0 w hW (fun sl v' X w2 => AllTo W0 l (c.depth + 1) X sl v' (takeAllF l (c.depth + 1)).1 (takeAllF l (c.depth + 1)).2 w2) hv h23 (by omega) ?_).mono ?_
          · intro X v1 hX hv1
            refine (takeAll_any l v1 (c.depth + 1) W0 X hv1 (by omega) ?_).mono ?_
            · intro r v' X' hr hX' hv'
              exact take_any m r v' (c.depth + 1) W0 X' (by omega) (by omega) (below_step hW (below_step hX hX')) hv'
            · rintro e w' ⟨sa, sn, sc, v', e1, e2⟩
              exact ⟨sa, sn, sc, v', e1, e2, e2.below⟩
          · rintro e w' ⟨g, sl, v', X, w2, e1, e2, e3, e4, e5, e6, e7⟩
            obtain ⟨vs, fs, k1, k2, k3, k4⟩ := e3.row
            have hXs := e2.size
            have h2s := e4.size
            refine .inr ⟨_, _, _, g, g :: (sl.ownBlock.toList ++ fs), v', hF, e1, ⟨g, sl, vs, fs, rfl, e6, own_below k1 e7, k2.below e7, rfl⟩, ?_, ?_, e3.rest, below_step e2 (below_step e4 e7)⟩
            · refine List.nodup_cons.2 ⟨fun hm => ?_, k3⟩
              rcases List.mem_append.1 hm with hm | hm
              · have := own_lt k1 g hm; omega
              · have := k2.lt g hm; omega
            · intro q hq
              rcases List.mem_cons.1 hq with rfl | hq
              · omega
              · have := k4 q hq; omega
        · rw [if_neg h23] at hF
          exact (take_other v c l w (hv.below hW) ⟨h1, fun e => h23 (.inl e), fun e => h23 (.inr e)⟩).mono fun e w' h => .inl ⟨hF, h.1, h.2⟩
    · rw [if_neg hdep] at hF
      exact (take_none v (c :: l) d w (hv.below hW) (.inr ⟨c, l, rfl, hdep⟩)).mono fun e w' h => .inl ⟨hF, h.1, h.2 ▸ Below.refl _ _⟩

end Go.Proofs.Ytcjcekaahooamaa
