/-
  Keys: lists of keys in memory, apart from one another, beside a decoder.
-/
import Derived.Test.YtghepjjfdaecgaaDoorKPie
import Derived.Test.YtghepjjfdaecgaaDoorQApp
namespace Go.Proofs.YtghepjjfdaecgaaDoor
open Go.RowKit
set_option linter.unusedVariables false
set_option maxRecDepth 100000

abbrev KL := Value × List (Int × Int)
def farK (p q : KL) : Prop := ∀ g, p.1.ownBlock = some g → q.1.ownBlock ≠ some g
theorem farK.symm {p q : KL} (h : farK p q) : farK q p := fun g hg hp => h g hp hg
/-- A decoder since w3, and lists that were made since. -/
structure Pi (w3 X : World) (db : Nat) (h : List UInt8) (L : List KL) : Prop where
  dc : ∃ v, Dc w3.heap.size db w3 X v h
  rows : ∀ p ∈ L, Row X 30 2 p.1 p.2.length (p.2.flatMap keyV)
  young : ∀ p ∈ L, ∀ g, p.1.ownBlock = some g → w3.heap.size ≤ g
  apart : L.Pairwise farK
theorem Pi.perm {w3 X : World} {db : Nat} {h : List UInt8} {L L' : List KL} (hp : Pi w3 X db h L) (hl : L.Perm L') : Pi w3 X db h L' :=
  ⟨hp.dc, fun p hm => hp.rows p (hl.mem_iff.2 hm), fun p hm => hp.young p (hl.mem_iff.2 hm), (hl.pairwise_iff (fun {_ _} h => farK.symm h)).1 hp.apart⟩
theorem Pi.more {w3 X X' : World} {db : Nat} {h : List UInt8} {L : List KL} (hp : Pi w3 X db h L) (hb : Below X.heap.size X X') : Pi w3 X' db h L := by
  obtain ⟨v, hd⟩ := hp.dc
  exact ⟨⟨v, hd.more hb⟩, fun p hm => (hp.rows p hm).below hb, hp.young, hp.apart⟩
theorem KeysAt.row {w : World} {B : Nat} {v : Value} {ks : List (Int × Int)} (h : KeysAt w B v ks) : Row w 30 2 v ks.length (ks.flatMap keyV) := by
  refine ⟨h.1, ?_⟩
  rcases h.2 with h0 | ⟨g, cap, cur, rfl, hb, hg, h1, h2, h3, h4⟩
  · exact .inl h0
  · refine .inr ⟨g, 0, cap, cur, rfl, hg, h1, h2, by omega, fun j u hu => ?_⟩
    rw [← h4] at hu
    rw [Nat.zero_add]
    have hj := (List.getElem?_eq_some_iff.1 hu).1
    rw [List.getElem?_take] at hu
    split at hu
    · simpa using hu
    · cases hu
theorem Row.seeK {w : World} {v : Value} {ks : List (Int × Int)} (h : Row w 30 2 v ks.length (ks.flatMap keyV)) : SeeK w v ks := by
  obtain ⟨hl, ⟨e, h0⟩ | ⟨g, o, cap, cur, e, hg, h1, h2, h3, h4⟩⟩ := h
  · have : ks = [] := List.length_eq_zero_iff.1 h0
    subst this
    exact ⟨_, _, e, fun h => absurd rfl h⟩
  · subst e
    refine ⟨_, _, rfl, fun _ => ⟨g, o, rfl, fun j hj => ?_⟩⟩
    obtain ⟨f1, f2⟩ := flat_at ks j hj
    rw [cell_at hg, cell_at hg]
    exact ⟨h4 _ _ f1, h4 _ _ f2⟩
theorem Row.ftK {w w' : World} {d : Nat} {v : Value} {n : Nat} {xs : List Value} (h : Row w 30 2 v n xs) (hf : Ft d w w') (hd : ∃ v T, T ≠ 30 ∧ w.heap[d]? = some (.cells v T (0, 0))) : Row w' 30 2 v n xs := by
  refine h.keep fun g hg => ?_
  obtain ⟨cur, hk⟩ := h.block hg
  rw [hk]
  refine hf g _ _ _ hk (by decide) ?_
  intro e
  obtain ⟨v', T, hT, hd⟩ := hd
  rw [e, hd] at hk
  simp only [Option.some.injEq, Obj.cells.injEq] at hk
  exact hT hk.2.1
theorem Pi.feed {w3 X X' : World} {db : Nat} {h h' : List UInt8} {L : List KL} {lv : Value} {ks : List (Int × Int)} (hp : Pi w3 X db h L) (hf : Fd w3.heap.size db w3 X X' lv h' ks) : Pi w3 X' db h' ((lv, ks) :: L) := by
  obtain ⟨v, hd⟩ := hp.dc
  refine ⟨hf.dc, fun p hm => ?_, fun p hm g hg => ?_, ?_⟩
  · rcases List.mem_cons.1 hm with e | e
    · rw [e]; exact hf.keys.row
    · exact (hp.rows p e).ftK hf.ft hd.dtype
  · rcases List.mem_cons.1 hm with e | e
    · rw [e] at hg
      exact Nat.le_trans hd.ap.size (hf.keys.blk hg).1
    · exact hp.young p e g hg
  · refine List.pairwise_cons.2 ⟨fun q hq g hg hq2 => ?_, hp.apart⟩
    have h1 := (hf.keys.blk hg).1
    have h2 := (hp.rows q hq).lt g hq2
    omega
theorem Pi.empty {w3 X : World} {db : Nat} {h : List UInt8} {L : List KL} (hp : Pi w3 X db h L) : Pi w3 (X.alloc (.cells #[] 30)) db h ((.slice (some ⟨X.heap.size, 0, none⟩) 0 0, []) :: L) := by
  have hm := hp.more ((Below.refl _ _).alloc (Nat.le_refl _) (.cells #[] 30))
  obtain ⟨v, hd⟩ := hp.dc
  refine ⟨hm.dc, fun p hq => ?_, fun p hq g hg => ?_, ?_⟩
  · rcases List.mem_cons.1 hq with e | e
    · rw [e]
      exact ⟨rfl, .inr ⟨X.heap.size, 0, 0, #[], rfl, heap_alloc_new X _, Nat.le_refl _, Nat.zero_le _, Nat.le_refl _, fun j u hu => by cases j <;> cases hu⟩⟩
    · exact hm.rows p e
  · rcases List.mem_cons.1 hq with e | e
    · rw [e] at hg
      cases hg
      exact hd.ap.size
    · exact hp.young p e g hg
  · refine List.pairwise_cons.2 ⟨fun q hq g hg hq2 => ?_, hp.apart⟩
    cases hg
    have h2 := (hp.rows q hq).lt _ hq2
    exact absurd h2 (Nat.lt_irrefl _)
theorem Pi.append {w3 X X' : World} {db : Nat} {h : List UInt8} {L : List KL} {v v' : Value} {ks us : List (Int × Int)} (hp : Pi w3 X db h ((v, ks) :: L)) (hr : Row X' 30 2 v' (ks.length + us.length) (ks.flatMap keyV ++ us.flatMap keyV)) (hg : Grown X X' v v' v.ownBlock.toList) : Pi w3 X' db h ((v', ks ++ us) :: L) := by
  obtain ⟨vd, hd⟩ := hp.dc
  have hv := hp.rows (v, ks) List.mem_cons_self
  have hne : ∀ (k : Nat) (cs : Array Value) (T : TypeId), X.heap[k]? = some (.cells cs T (0, 0)) → T ≠ 30 → X'.heap[k]? = some (.cells cs T (0, 0)) := fun k cs T hk1 hT => by
    refine (hg.but.block k (lt_block hk1) (fun e => ?_)).trans hk1
    have e2 : v.ownBlock = some k := by simpa using e
    obtain ⟨cur, hk2⟩ := hv.block e2
    rw [hk2] at hk1
    simp only [Option.some.injEq, Obj.cells.injEq] at hk1
    exact hT hk1.2.1.symm
  have hy := hp.young (v, ks) List.mem_cons_self
  have hown : ∀ g, v'.ownBlock = some g → v.ownBlock = some g ∨ g = X.heap.size := fun g hgv => by
    rcases hg.own with e | e
    · left; rw [← e]; exact hgv
    · right; rw [e] at hgv; exact (Option.some.inj hgv).symm
  have hap := List.pairwise_cons.1 hp.apart
  refine ⟨⟨vd, ⟨hd.ap.trans ⟨hg.but.os, hg.but.tape, hg.but.output, hg.but.size, fun k hk _ => hg.but.block k (Nat.lt_of_lt_of_le hk hd.ap.size) (fun e => ?_)⟩, hne db _ _ hd.blk (by decide), hd.own.keep fun g hg2 => ?_, hd.bs, hd.lo⟩⟩, fun p hq => ?_, fun p hq g hgq => ?_, ?_⟩
  · have := hy k (by simpa using e)
    omega
  · rcases hd.own.2 with ⟨e, _⟩ | ⟨g', cap, cur, e, _, hk2, _⟩
    · rw [e] at hg2; cases hg2
    · rw [e] at hg2; cases hg2
      rw [hk2]
      exact hne _ _ _ hk2 (by decide)
  · rcases List.mem_cons.1 hq with e | e
    · rw [e]
      show Row X' _ 2 v' (ks ++ us).length ((ks ++ us).flatMap keyV)
      rw [List.length_append, List.flatMap_append]
      exact hr
    · exact (hp.rows p (List.mem_cons_of_mem _ e)).but hg.but (fun g hgp hs => hap.1 p e g (by simpa using hs) hgp)
  · rcases List.mem_cons.1 hq with e | e
    · rw [e] at hgq
      rcases hown g hgq with e2 | e2
      · exact hy g e2
      · rw [e2]; exact hd.ap.size
    · exact hp.young p (List.mem_cons_of_mem _ e) g hgq
  · refine List.pairwise_cons.2 ⟨fun q hq g hgq hq2 => ?_, hap.2⟩
    rcases hown g hgq with e2 | e2
    · exact hap.1 q hq g e2 hq2
    · have := (hp.rows q (List.mem_cons_of_mem _ hq)).lt g hq2
      omega
theorem SeeK.src {w : World} {v : Value} {ks : List (Int × Int)} (h : SeeK w v ks) : Src Tryd.prog 2 24 v ks.length (ks.flatMap keyV) w := by
  obtain ⟨ad, c, rfl, hc⟩ := h
  have hone : ∀ u ∈ ks.flatMap keyV, u.oneCell' = true := fun u hu => by
    obtain ⟨k, _, hk⟩ := List.mem_flatMap.1 hu
    simp only [keyV, List.mem_cons, List.not_mem_nil, or_false] at hk
    rcases hk with e | e <;> rw [e] <;> rfl
  by_cases h0 : ks = []
  · subst h0
    cases ad with
    | none => exact Src.ofNil w underKeys c
    | some a => exact Src.ofSlice w underKeys a 0 c [] rfl (fun j u hu => by cases j <;> cases hu) (fun u hu => by cases hu)
  · obtain ⟨g, o, rfl, hcell⟩ := hc h0
    refine Src.ofSlice w underKeys _ _ c _ (keys_flat ks) (fun j u hu => ?_) hone
    have hj := (List.getElem?_eq_some_iff.1 hu).1
    rw [keys_flat] at hj
    obtain ⟨c1, c2⟩ := hcell (j / 2) (by omega)
    obtain ⟨f1, f2⟩ := flat_at ks (j / 2) (by omega)
    rw [addr_add]
    rcases Nat.mod_two_eq_zero_or_one j with hp | hp
    · have e : j / 2 * 2 = j := by omega
      rw [e] at f1 c1
      rw [f1] at hu
      rw [c1]; exact hu
    · have e : j / 2 * 2 + 1 = j := by omega
      rw [Nat.add_assoc, e] at c2
      rw [e] at f2
      rw [f2] at hu
      rw [c2]; exact hu
/-- Feed, lists kept. -/
theorem feed_pi {w3 X : World} {db : Nat} {h : List UInt8} {L : List KL} (hp : Pi w3 X db h L) (hT : Tabs w3) (hl : h.length ≤ 255) (t : List UInt8) (ht : t.length ≤ 9000000) :
    Calls Tryd.prog 10 #[.pointer (some ⟨db, 0, none⟩), .string (str t)] X fun r X' => ∃ a c, r = .returned (.slice a (feedF h t).2.length c) ∧ Pi w3 X' db (feedF h t).1 ((.slice a (feedF h t).2.length c, (feedF h t).2) :: L) := by
  obtain ⟨v, hd⟩ := hp.dc
  refine (feed_any hd hT hl t ht).mono ?_
  rintro e w' ⟨lv, rfl, hf⟩
  obtain ⟨a, c, rfl⟩ := hf.keys.slice
  exact ⟨a, c, rfl, hp.feed hf⟩
end Go.Proofs.YtghepjjfdaecgaaDoor
