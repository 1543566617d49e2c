/-
  Layouts: replace, of every tree.
-/
import Derived.Test.YtnepemlagnnngaaCGr
namespace Go.Proofs.Ytnepemlagnnngaa
open Go.RowKit Go.Lib
set_option linter.unusedVariables false
set_option maxRecDepth 20000

/-- The tree that replace leaves. -/
def GraftT (t' : Tree) (v : Value) (fp fS : List Nat) (W : World) (e : Ending) (W' : World) : Prop := e = .returned v ∧ ∃ fp', t'.At W' 0 v fp' ∧ fp'.Nodup ∧ (∀ q ∈ fp', q ∈ fp ∨ q ∈ fS ∨ W.heap.size ≤ q) ∧ But fp W W'

theorem replace_graft (t : Tree) (v : Value) (fp qs : List Nat) (b : Box) (k : Int) (ts : List Tree) (g pg L cap i : Nat) (vs : List Value) (f1 f2 R : List Nat) (s : Tree) (vS : Value) (fS : List Nat) (wg wo wn wc : Nat) (W : World)
    (hw0 : W.cell? ⟨wg, wo, none⟩ = some (.pointer (some ⟨g, 0, none⟩))) (hw1 : W.cell? ⟨wg, wo + 1, none⟩ = some (.int .i64 i)) (hwn : 1 ≤ wn)
    (hS : SplitAt W g b k (.slice (some ⟨pg, 0, none⟩) L cap)) (hR : W.ownsRow 0 56 1 (.slice (some ⟨pg, 0, none⟩) L cap) L vs) (hi : i < L) (hL : L ≤ 900)
    (h1 : partsAt W 0 (ts.take i) (vs.take i) f1) (h2 : partsAt W 0 (ts.drop (i + 1)) (vs.drop (i + 1)) f2) (hone : ∀ u ∈ vs, u.oneCell' = true)
    (hput : ∀ W' s' f'', s'.At W' 0 (splitI g) f'' → (∀ q ∈ R, W'.heap[q]? = W.heap[q]?) → ∃ fp', (t.putAt qs s').At W' 0 v fp' ∧ fp'.Perm (f'' ++ R)) (hRl : ∀ q ∈ R, q < W.heap.size)
    (hs : s.At W 0 vS fS) (hss : s.sound = true) (hsf : s.fine) (hsz : s.size ≤ 900) (hall : (g :: pg :: (f1 ++ (fS ++ (f2 ++ R)))).Nodup) (hfp : ∀ q, q = g ∨ q = pg ∨ q ∈ f1 ∨ q ∈ f2 ∨ q ∈ R → q ∈ fp) :
    Calls Try.prog 32 #[v, .slice (some ⟨wg, wo, none⟩) wn wc, vS] W (GraftT (t.putAt qs (.split b k (spliceT k ts i s))) v fp fS W) := by
  obtain ⟨us, f, hF, hP, hsub⟩ := flat_of (k := k) hs hsf hss
  obtain ⟨a1, a2⟩ := List.nodup_cons.1 hall
  obtain ⟨a3, a4⟩ := List.nodup_cons.1 a2
  have hgp : g ≠ pg := fun e => a1 (by simp [e])
  have hnS : pg ∉ fS := fun e => a3 (by simp [e])
  have hul := hP.length
  have hflen : (flatT k s).length ≤ 900 := by
    cases s with
    | leaf b' p => simp [flatT]
    | split b' k' ts' =>
      show (if k' = k then ts' else [.split b' k' ts']).length ≤ 900
      have := length_sizes ts'
      change 1 + sizes ts' ≤ 900 at hsz
      split
      · omega
      · simp
  have hG : Calls Try.prog 32 #[v, .slice (some ⟨wg, wo, none⟩) wn wc, vS] W (Grafted g i b k pg L vs us v W) := by
    cases hk : s.kindIs k with
    | false => exact replace_no v wg wo wn wc g i b k pg L cap vs s vS us W hw0 hw1 hwn hS hR hi (by omega) hF hgp hk
    | true =>
      refine replace_yes v wg wo wn wc g i b k pg L cap vs s vS us W hw0 hw1 hwn hS hR hi (by omega) hF hgp hk ?_ ?_ (by omega) hP.one_cell hone
      · intro gi g' c' e1 e2
        cases s with
        | leaf b' p => cases hk
        | split b' k' ts' =>
          obtain ⟨g0, sl, vs', fs, e3, k2, k3, k4, rfl⟩ := hs
          rw [e1] at e3
          cases e3
          have h5 := cell_atL k2 5
          rw [e2] at h5
          have hsl : sl = .slice (some ⟨g', 0, none⟩) us.length c' := (Option.some.inj h5).symm
          subst hsl
          refine ⟨fun e => hnS ?_, fun e => hnS ?_⟩
          · rw [← e]
            simp [Value.ownBlock]
          · rw [← e]
            simp
      · rw [hul]
        cases s with
        | leaf b' p => cases hk
        | split b' k' ts' =>
          have hkk : k' = k := by simpa [Tree.kindIs] using hk
          show 2 ≤ (if k' = k then ts' else [.split b' k' ts']).length
          rw [if_pos hkk]
          unfold Tree.sound at hss
          simp only [Bool.and_eq_true, decide_eq_true_eq] at hss
          exact hss.1.1
  refine hG.mono ?_
  rintro e W' ⟨rfl, g', c', hS', hR', hg', hb⟩
  have hkeep : ∀ q, q < W.heap.size → q ≠ g → q ≠ pg → W'.heap[q]? = W.heap[q]? := fun q hq n1 n2 => hb.block q hq (by simp [n1, n2])
  have hin : ∀ q, q ∈ f1 ∨ q ∈ f ∨ q ∈ f2 ∨ q ∈ R → q ∈ f1 ++ (fS ++ (f2 ++ R)) := fun q hq => by
    simp only [List.mem_append]
    rcases hq with h | h | h | h
    · exact .inl h
    · exact .inr (.inl (hsub.subset h))
    · exact .inr (.inr (.inl h))
    · exact .inr (.inr (.inr h))
  have hne : ∀ q, q ∈ f1 ∨ q ∈ f ∨ q ∈ f2 ∨ q ∈ R → q ≠ g ∧ q ≠ pg := fun q hq => ⟨fun e => a1 (List.mem_cons_of_mem _ (e ▸ hin q hq)), fun e => a3 (e ▸ hin q hq)⟩
  have hlt : ∀ q, q ∈ f1 ∨ q ∈ f ∨ q ∈ f2 ∨ q ∈ R → q < W.heap.size := fun q hq => by
    rcases hq with h | h | h | h
    · exact h1.lt q h
    · exact hP.lt q h
    · exact h2.lt q h
    · exact hRl q h
  have hk1 : ∀ q, q ∈ f1 ∨ q ∈ f ∨ q ∈ f2 ∨ q ∈ R → W'.heap[q]? = W.heap[q]? := fun q hq => hkeep q (hlt q hq) (hne q hq).1 (hne q hq).2
  have hvl : vs.length = L := by simpa using hR.1
  have hparts : partsAt W' 0 (spliceT k ts i s) (vs.take i ++ (us ++ vs.drop (i + 1))) (f1 ++ (f ++ f2)) :=
    (h1.keep fun q hq => hk1 q (.inl hq)).append ((hP.keep fun q hq => hk1 q (.inr (.inl hq))).append (h2.keep fun q hq => hk1 q (.inr (.inr (.inl hq)))))
  have hlen : (vs.take i ++ (us ++ vs.drop (i + 1))).length = L - 1 + us.length := by
    rw [List.length_append, List.length_append, List.length_take, List.length_drop]
    omega
  have hnew : (Tree.split b k (spliceT k ts i s)).At W' 0 (splitI g) (g :: ((Value.slice (some ⟨g', 0, none⟩) (L - 1 + us.length) c').ownBlock.toList ++ (f1 ++ (f ++ f2)))) := ⟨g, _, _, _, rfl, hS', by rw [hlen]; exact hR', hparts, rfl⟩
  obtain ⟨fp', hAt, hperm⟩ := hput W' _ _ hnew (fun q hq => hk1 q (.inr (.inr (.inr hq))))
  have hform : (g :: ((Value.slice (some ⟨g', 0, none⟩) (L - 1 + us.length) c').ownBlock.toList ++ (f1 ++ (f ++ f2)))) ++ R = g :: g' :: (f1 ++ (f ++ (f2 ++ R))) := by simp [Value.ownBlock]
  rw [hform] at hperm
  have hsl : List.Sublist (f1 ++ (f ++ (f2 ++ R))) (f1 ++ (fS ++ (f2 ++ R))) := (List.Sublist.refl _).append (hsub.append (List.Sublist.refl _))
  have hmem : ∀ q, q ∈ f1 ++ (f ++ (f2 ++ R)) → q ∈ f1 ∨ q ∈ f ∨ q ∈ f2 ∨ q ∈ R := fun q hq => by simpa only [List.mem_append] using hq
  refine ⟨rfl, fp', hAt, hperm.nodup_iff.2 (List.nodup_cons.2 ⟨fun h => ?_, List.nodup_cons.2 ⟨fun h => ?_, hsl.nodup a4⟩⟩), fun q hq => ?_, hb.mono fun q hq => ?_⟩
  · rcases List.mem_cons.1 h with h | h
    · rcases hg' with h' | h'
      · exact hgp (h.trans h')
      · have := lt_of_block hS
        omega
    · exact (hne g (hmem g h)).1 rfl
  · rcases hg' with h' | h'
    · exact (hne g' (hmem g' h)).2 h'
    · have := hlt g' (hmem g' h)
      omega
  · have hq' := hperm.mem_iff.1 hq
    rcases List.mem_cons.1 hq' with h | h
    · exact .inl (hfp q (.inl h))
    · rcases List.mem_cons.1 h with h | h
      · rcases hg' with h' | h'
        · exact .inl (hfp q (.inr (.inl (h.trans h'))))
        · exact .inr (.inr (by omega))
      · rcases hmem q h with h | h | h | h
        · exact .inl (hfp q (.inr (.inr (.inl h))))
        · exact .inr (.inl (hsub.subset h))
        · exact .inl (hfp q (.inr (.inr (.inr (.inl h)))))
        · exact .inl (hfp q (.inr (.inr (.inr (.inr h)))))
  · have : q = g ∨ q = pg := by simpa using hq
    rcases this with h | h
    · exact hfp q (.inl h)
    · exact hfp q (.inr (.inl h))

end Go.Proofs.Ytnepemlagnnngaa
