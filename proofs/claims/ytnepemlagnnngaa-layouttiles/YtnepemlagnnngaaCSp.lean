/-
  Layouts: a pane cut in two, pure.
  Layouts: Split in the program, where it says no.
-/
import Derived.Test.YtnepemlagnnngaaCFj
import Derived.Test.YtnepemlagnnngaaCCx
namespace Go.Proofs.Ytnepemlagnnngaa
open Go.RowKit
set_option linter.unusedVariables false

/-- What stands in the pane's place. -/
def cutT (q k n id : Int) (bf : Bool) (bl : Box) : Tree := besideT k bf (.leaf (bl.str k (-n - 1)) q) (.leaf (bl.with k n) id)

structure CutOk (q k n id : Int) (bf : Bool) (bl : Box) : Prop where
  beside : BesideOk k bf (.leaf (bl.str k (-n - 1)) q) (.leaf (bl.with k n) id)
  sound : (cutT q k n id bf bl).sound = true
  kinds : (cutT q k n id bf bl).kinds
  box : (cutT q k n id bf bl).box.w = bl.w ∧ (cutT q k n id bf bl).box.h = bl.h
  size : (cutT q k n id bf bl).size ≤ 3

theorem cut_ok {q k n id : Int} (bf : Bool) {bl : Box} (hk : k = 2 ∨ k = 3) (hs : (Tree.leaf bl q).sound = true) (hid : idB id = true) (h1 : 1 ≤ n) (h2 : n ≤ bl.ext k - 2) : CutOk q k n id bf bl := by
  have hsd := (Tree.leaf bl q).sound_sides hs
  change (1 ≤ bl.w ∧ bl.w ≤ 1000) ∧ (1 ≤ bl.h ∧ bl.h ≤ 1000) at hsd
  have hB : BesideOk k bf (.leaf (bl.str k (-n - 1)) q) (.leaf (bl.with k n) id) := by
    have hq : idB q = true := by
      unfold Tree.sound at hs
      simp only [Bool.and_eq_true] at hs
      simp [hs]
    refine beside_ok k hk bf _ _ id ?_ trivial (by unfold Tree.size; omega) ?_ ?_ ?_
    · unfold Tree.sound
      rcases hk with rfl | rfl
      · unfold Box.ext at h2
        simp only [Box.str, sideB, if_true] at *
        simp [hq]; omega
      · unfold Box.ext at h2
        simp only [Box.str, sideB] at *
        simp at h2
        simp [hq]; omega
    · unfold Tree.sound
      rcases hk with rfl | rfl
      · unfold Box.ext at h2
        simp only [Box.with, Box.ext, Box.str, sideB, if_true] at *
        simp [hid]; omega
      · unfold Box.ext at h2
        simp only [Box.with, Box.ext, Box.str, sideB] at *
        simp at h2
        simp [hid]; omega
    · rcases hk with rfl | rfl <;> simp [acrossK, Box.ext, Box.with, Box.str, Tree.box]
    · rcases hk with rfl | rfl
      · simp [Box.ext, Box.with, Box.str, Tree.box]; omega
      · simp [Box.ext, Box.with, Box.str, Tree.box]; omega
  refine ⟨hB, hB.sound, hB.kinds, ?_, hB.size⟩
  have hn := hB.node
  have hw := nodeOf_w (cutT q k n id bf bl)
  have hh := nodeOf_h (cutT q k n id bf bl)
  unfold cutT at hw hh ⊢
  rw [← hw, ← hh, hn]
  rcases hk with rfl | rfl
  · simp [Box.ext, Box.with, Box.str, Tree.box, Node.w, Node.h]; omega
  · simp [Box.ext, Box.with, Box.str, Tree.box, Node.w, Node.h]; omega

/-- Level by level. -/
inductive Cutd (q : Int) (c : Box → Tree) (bl : Box) : Tree → Tree → Prop
  | keep (t : Tree) : q ∉ t.idl → Cutd q c bl t t
  | here : Cutd q c bl (.leaf bl q) (c bl)
  | deep (b : Box) (k : Int) (ts : List Tree) (i : Nat) (s s' : Tree) : ts[i]? = some s → Cutd q c bl s s' → (∀ (j : Nat) u, j ≠ i → ts[j]? = some u → q ∉ u.idl) → Cutd q c bl (.split b k ts) (.split b k (spliceT k ts i s'))

/-- By where it stands. -/
inductive SplitT (q : Int) (c : Box → Tree) (t : Tree) : List Nat → Tree → Prop
  | root (bl : Box) : t = .leaf bl q → SplitT q c t [] (c bl)
  | «at» (qs : List Nat) (a : Nat) (b : Box) (k : Int) (ts : List Tree) (bl : Box) : t.subAt qs = some (.split b k ts) → ts[a]? = some (.leaf bl q) → SplitT q c t (qs ++ [a]) (t.putAt qs (.split b k (spliceT k ts a (c bl))))

structure SplitOk (q : Int) (c : Box → Tree) (bl : Box) (t : Tree) (ps : List Nat) (t' : Tree) : Prop where
  split : SplitT q c t ps t'
  cutd : Cutd q c bl t t'
  sound : t'.sound = true
  kinds : t'.kinds
  box : t'.box.w = t.box.w ∧ t'.box.h = t.box.h
  size : t'.size ≤ t.size + 2

theorem split_any (q : Int) (c : Box → Tree) (bl : Box) (h1 : (c bl).sound = true) (h2 : (c bl).kinds) (h3 : (c bl).box.w = bl.w ∧ (c bl).box.h = bl.h) (h4 : (c bl).size ≤ 3) : ∀ (ps : List Nat) (t : Tree), t.sound = true → t.kinds → t.idl.Nodup → t.path q = some ps → t.subAt ps = some (.leaf bl q) → ∃ t', SplitOk q c bl t ps t'
  | [], t, hs, hk, hn, hp, hsub => by
    unfold Tree.subAt at hsub
    cases hsub
    exact ⟨c bl, .root bl rfl, .here, h1, h2, h3, by show _ ≤ 1 + 2; omega⟩
  | i :: ps, .leaf b p, hs, hk, hn, hp, hsub => by
    unfold Tree.path at hp
    split at hp <;> cases hp
  | i :: ps, .split b k ts, hs, hk, hn, hp, hsub => by
    unfold Tree.path at hp
    obtain ⟨i', s, ps', e, hi, hps⟩ := pathAll_inv q ts 0 _ hp
    rw [Nat.zero_add] at e
    cases e
    unfold Tree.idl at hn
    have hs0 := hs
    unfold Tree.sound at hs
    simp only [Bool.and_eq_true, decide_eq_true_eq] at hs
    have hqs : q ∈ s.idl := Classical.byContradiction fun h => by rw [(path_mem s q).2 h] at hps; cases hps
    have hoth : ∀ (j : Nat) u, j ≠ i → ts[j]? = some u → q ∉ u.idl := fun j u hj hu => idls_apart q ts hn i j s u hi hu (Ne.symm hj) hqs
    have hsd := soundAll_at ts b k i s hi hs.2.1
    simp only [Bool.and_eq_true, decide_eq_true_eq] at hsd
    have hks := kindsAll_at ts i s hi hk.2
    have hlt := (List.getElem?_eq_some_iff.1 hi).1
    have hnk : s.kindIs k = false := by simpa using hsd.2.1
    have hsub' : s.subAt ps = some (.leaf bl q) := by
      unfold Tree.subAt at hsub
      rw [hi] at hsub
      exact hsub
    obtain ⟨s', hS⟩ := split_any q c bl h1 h2 h3 h4 ps s hsd.1 hks (idls_nodup ts hn i s hi) hps hsub'
    obtain ⟨hf, hz2⟩ := splice_fits b k ts i s s' hi hS.sound hS.kinds hS.box hk.1 hs0
    refine ⟨.split b k (spliceT k ts i s'), ?_, .deep b k ts i s s' hi hS.cutd hoth, hf.sound hs0, hf.kinds hk, ⟨rfl, rfl⟩, by have := hS.size; omega⟩
    cases hS.split with
    | root bl' e =>
      exact SplitT.«at» [] i b k ts bl' rfl (by rw [hi, e])
    | «at» qs a b' k' ts' bl' g1 g2 =>
      have hkd : (s.putAt qs (.split b' k' (spliceT k' ts' a (c bl')))).kindIs k = false := (put_kind qs s _ (.split b' k' (spliceT k' ts' a (c bl'))) g1 (fun q => rfl) k).trans hnk
      have := SplitT.«at» (q := q) (c := c) (t := .split b k ts) (i :: qs) a b' k' ts' bl' (sub_cons hi g1) g2
      rw [put_cons hi] at this
      rw [splice_no hkd hlt]
      exact this

end Go.Proofs.Ytnepemlagnnngaa

namespace Go.Proofs.Ytnepemlagnnngaa
open Go.RowKit Go.Lib
set_option linter.unusedVariables false
set_option maxRecDepth 100000

theorem hiddenS {p : Prop} (h : p) : Hid p := h

theorem splP_none (v : Value) (l : List CellV) (q k z id : Int) (bf : Bool) (w : World) (h : CellsIn w v l) (hF : readF l = none) : Calls Try.prog 8 #[v, .int .i64 q, .int .i64 k, .int .i64 z, .bool bf, .int .i64 id] w (Ans2 40 [] w) := by
  have HR : Hid (Calls Try.prog 24 #[v] w fun e w' => e = .returned nilPart ∧ Below w.heap.size w w') := read_no v l w h hF
  clear h hF
  go_enter Try.func8, Try.ntmps8
  go_wp2_with fail
  refine HR.out.mono ?_
  rintro e w1 ⟨rfl, hb⟩
  unfold nilPart
  go_wp2
  go_ret2
  exact ⟨_, rfl, World.ownsRow_nil _ _ _ _, hb⟩

theorem splP_arg (v : Value) (l : List CellV) (q k z id : Int) (bf : Bool) (w : World) (h : CellsIn w v l) {t : Tree} (hF : readF l = some t) (hk : ¬ (k = 2 ∨ k = 3)) : Calls Try.prog 8 #[v, .int .i64 q, .int .i64 k, .int .i64 z, .bool bf, .int .i64 id] w (Ans2 1 [] w) := by
  have HR : Hid (Calls Try.prog 24 #[v] w (ReadYes t w)) := read_yes v l w h hF
  have HC : Hid (∀ W, Calls Try.prog 25 #[.int .i64 k] W fun e w' => e = .returned (.bool false) ∧ W = w') := fun W => (decide_eq_false hk) ▸ isCut_any k W
  clear h hF hk
  go_enter Try.func8, Try.ntmps8
  go_wp2_with fail
  refine HR.out.mono ?_
  rintro e w1 ⟨T, g, fp, rfl, hAt, hnd, hge, hb⟩
  have HB : Hid (Below w.heap.size w w1) := hb
  clear hAt hnd hge hb HR
  go_wp2_with fail
  refine (HC.out _).mono ?_
  rintro e w2 ⟨rfl, rfl⟩
  go_wp2
  go_ret2
  exact ⟨_, rfl, World.ownsRow_nil _ _ _ _, HB.out⟩

set_option maxHeartbeats 1000000 in
theorem splP_miss (v : Value) (l : List CellV) (q k z id : Int) (bf : Bool) (w : World) (h : CellsIn w v l) {t : Tree} (hF : readF l = some t) (hk : k = 2 ∨ k = 3) (hp : t.path q = none) : Calls Try.prog 8 #[v, .int .i64 q, .int .i64 k, .int .i64 z, .bool bf, .int .i64 id] w (Ans2 42 [] w) := by
  have HR : Hid (Calls Try.prog 24 #[v] w (ReadYes t w)) := read_yes v l w h hF
  have hl := readF_lay hF
  have hz := lay_size hl
  have HW : Hid (∀ T g fp w1, t.At w1 0 (.iface T (.pointer (some ⟨g, 0, none⟩))) fp → ∃ Fw, (∀ W, (method 279 T (.pointer (some ⟨g, 0, none⟩)) "mullion/layout.way").run Try.prog W = .ok (Fw, .pointer (some ⟨g, 0, none⟩)) W) ∧ (∀ a c W, (callFunc Fw #[a, c]).run Try.prog W = .ok (.enter Fw #[a, c]) W) ∧ Calls Try.prog Fw #[.pointer (some ⟨g, 0, none⟩), .int .i64 q] w1 fun e w' => Below w1.heap.size w1 w' ∧ e = .returned (.tuple #[.slice none 0 0, .pointer none])) := fun T g fp w1 hA => by
    obtain ⟨Fw, m1, m2, hc⟩ := way_root hA hl.sound (by omega) q
    refine ⟨Fw, m1, m2, (hc w1 (Below.refl _ _)).mono fun e w' h => ?_⟩
    obtain ⟨hb, ⟨_, he⟩ | ⟨ps, gl, st, sa, sn, sc, h1, _⟩⟩ := h
    · exact ⟨hb, he⟩
    · rw [hp] at h1
      cases h1
  have HCu : Hid (∀ W, Calls Try.prog 25 #[.int .i64 k] W fun e w' => e = .returned (.bool true) ∧ W = w') := fun W => (decide_eq_true hk) ▸ isCut_any k W
  clear h hF hl hz hp hk
  go_enter Try.func8, Try.ntmps8
  go_wp2_with fail
  refine HR.out.mono ?_
  rintro e w1 ⟨T, g, fp, rfl, hAt, hnd, hge, hb⟩
  have HB : Hid (Below w.heap.size w w1) := hb
  obtain ⟨Fw, m1, m2, hc⟩ := HW.out T g fp w1 hAt
  have HC : Hid (Calls Try.prog Fw #[.pointer (some ⟨g, 0, none⟩), .int .i64 q] w1 fun e w' => Below w1.heap.size w1 w' ∧ e = .returned (.tuple #[.slice none 0 0, .pointer none])) := hc
  clear hAt hnd hge hb hc HR HW
  go_wp2_with fail
  refine (HCu.out _).mono ?_
  rintro e w9 ⟨rfl, rfl⟩
  go_wp2_with fail
  refine HC.out.mono ?_
  rintro e w2 ⟨hb2, rfl⟩
  have HB2 : Hid (Below w.heap.size w w2) := below_step HB.out hb2
  clear hb2 HC
  go_wp2
  go_ret2
  exact ⟨_, rfl, World.ownsRow_nil _ _ _ _, HB2.out⟩

set_option maxHeartbeats 1000000 in
theorem splP_join (v : Value) (l : List CellV) (q k z id : Int) (bf : Bool) (w : World) (h : CellsIn w v l) {t : Tree} (hF : readF l = some t) (hk : k = 2 ∨ k = 3) (hp : t.path q ≠ none) (er : Int) (her : joinE l id = er) (h0 : er ≠ 0) : Calls Try.prog 8 #[v, .int .i64 q, .int .i64 k, .int .i64 z, .bool bf, .int .i64 id] w (Ans2 er [] w) := by
  have HR : Hid (Calls Try.prog 24 #[v] w (ReadYes t w)) := read_yes v l w h hF
  have HC : Hid (∀ W, Calls Try.prog 25 #[.int .i64 k] W fun e w' => e = .returned (.bool true) ∧ W = w') := fun W => (decide_eq_true hk) ▸ isCut_any k W
  have hl63 := (read_lenS (by rw [hF]; rfl : (readF l).isSome = true)).1
  have HJ : Hid (∀ X, Below w.heap.size w X → Calls Try.prog 26 #[v, .int .i64 id] X fun e w' => e = .returned (.int .i64 er) ∧ Below X.heap.size X w') := fun X hX => her ▸ mayJoin_any v l id X (h.below hX) (by omega)
  have hl := readF_lay hF
  have hz := lay_size hl
  have HW : Hid (∀ T g fp w1, t.At w1 0 (.iface T (.pointer (some ⟨g, 0, none⟩))) fp → ∃ Fw, (∀ W, (method 279 T (.pointer (some ⟨g, 0, none⟩)) "mullion/layout.way").run Try.prog W = .ok (Fw, .pointer (some ⟨g, 0, none⟩)) W) ∧ (∀ a c W, (callFunc Fw #[a, c]).run Try.prog W = .ok (.enter Fw #[a, c]) W) ∧ Calls Try.prog Fw #[.pointer (some ⟨g, 0, none⟩), .int .i64 q] w1 fun e w' => Below w1.heap.size w1 w' ∧ ∃ gl sa sn sc, e = .returned (.tuple #[.slice sa sn sc, .pointer (some ⟨gl, 0, none⟩)])) := fun T g fp w1 hA => by
    obtain ⟨Fw, m1, m2, hc⟩ := way_root hA hl.sound (by omega) q
    refine ⟨Fw, m1, m2, (hc w1 (Below.refl _ _)).mono fun e w' h => ?_⟩
    obtain ⟨hb, ⟨h1, _⟩ | ⟨ps, gl, st, sa, sn, sc, h1, h2, he, h3⟩⟩ := h
    · exact absurd h1 hp
    · exact ⟨hb, gl, sa, sn, sc, he⟩
  have h0' : (er != 0) = true := by simpa using h0
  clear h hF hk her h0 hl63 hl hz hp
  go_enter Try.func8, Try.ntmps8
  go_wp2_with fail
  refine HR.out.mono ?_
  rintro e w1 ⟨T, g, fp, rfl, hAt, hnd, hge, hb⟩
  have HB : Hid (Below w.heap.size w w1) := hb
  obtain ⟨Fw, m1, m2, hc⟩ := HW.out T g fp w1 hAt
  have HF := hiddenS hc
  clear hAt hnd hge hb hc HR HW
  go_wp2_with fail
  refine (HC.out _).mono ?_
  rintro e w9 ⟨rfl, rfl⟩
  go_wp2_with fail
  refine HF.out.mono ?_
  rintro e w8 ⟨hb8, gl, sa, sn, sc, rfl⟩
  have HB8 : Hid (Below w.heap.size w w8) := below_step HB.out hb8
  clear hb8 HF
  go_wp2_with fail
  refine (HJ.out _ HB8.out).mono ?_
  rintro e w2 ⟨rfl, hb2⟩
  have HB2 : Hid (Below w.heap.size w w2) := below_step HB8.out hb2
  clear hb2
  go_wp2
  go_ret2
  exact ⟨_, rfl, World.ownsRow_nil _ _ _ _, HB2.out⟩

end Go.Proofs.Ytnepemlagnnngaa
