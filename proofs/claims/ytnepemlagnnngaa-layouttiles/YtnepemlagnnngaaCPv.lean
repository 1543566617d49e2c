/-
  Layouts: a border is pushed deep in a tree: the tree, and Push in the program.
  Layouts: Push in the program.
  Layouts: the document's giver: which child gives next (mkgiver.py).
  Layouts: lines drawn from parts as the document draws them.
  Layouts: a round of the document's border (mkborder.py).
  Layouts: the document's pushed, in words.
  Layouts: Set in the program (mksetp.py).
-/
import Derived.Test.YtnepemlagnnngaaCPu
import Derived.Test.YtnepemlagnnngaaCSm
namespace Go.Proofs.Ytnepemlagnnngaa
open Go.RowKit
set_option linter.unusedVariables false
set_option maxRecDepth 20000

/-- A part that another one may stand for. -/
structure Same (s s' : Tree) : Prop where
  sound : s.sound = true → s'.sound = true
  box : s'.box = s.box
  kind : ∀ q, s'.kindIs q = s.kindIs q
  kinds : s.kinds → s'.kinds
  size : s'.size = s.size
structure SameL (b : Box) (k : Int) (ts rs : List Tree) : Prop where
  len : rs.length = ts.length
  sound : soundAll ts b k = true → soundAll rs b k = true
  ext : extAll rs k = extAll ts k
  kinds : kindsAll ts → kindsAll rs
  size : sizes rs = sizes ts
theorem same_set (b : Box) (k : Int) (u u' : Tree) (h : Same u u') : ∀ (ts : List Tree) (i : Nat), ts[i]? = some u → SameL b k ts (ts.set i u')
  | [], i, hi => by simp at hi
  | a :: ts, 0, hi => by
    simp at hi
    subst hi
    refine ⟨by simp, fun hs => ?_, ?_, fun hk => ⟨h.kinds hk.1, hk.2⟩, ?_⟩
    · show soundAll (u' :: ts) b k = true
      unfold soundAll at hs ⊢
      simp only [Bool.and_eq_true, decide_eq_true_eq] at hs ⊢
      exact ⟨⟨h.sound hs.1.1, by rw [h.kind]; exact hs.1.2.1, by rw [h.box]; exact hs.1.2.2⟩, hs.2⟩
    · show u'.box.ext k + 1 + extAll ts k = a.box.ext k + 1 + extAll ts k
      rw [h.box]
    · show u'.size + sizes ts = a.size + sizes ts
      rw [h.size]
  | a :: ts, i + 1, hi => by
    have ih := same_set b k u u' h ts i (by simpa using hi)
    refine ⟨by simp, fun hs => ?_, ?_, fun hk => ⟨hk.1, ih.kinds hk.2⟩, ?_⟩
    · show soundAll (a :: ts.set i u') b k = true
      unfold soundAll at hs ⊢
      simp only [Bool.and_eq_true, decide_eq_true_eq] at hs ⊢
      exact ⟨hs.1, ih.sound hs.2⟩
    · show a.box.ext k + 1 + extAll (ts.set i u') k = a.box.ext k + 1 + extAll ts k
      rw [ih.ext]
    · show a.size + sizes (ts.set i u') = a.size + sizes ts
      rw [ih.size]
theorem same_split (b : Box) (k : Int) (ts rs : List Tree) (h : SameL b k ts rs) : Same (.split b k ts) (.split b k rs) := by
  refine ⟨fun hs => ?_, rfl, fun q => rfl, fun hk => ⟨hk.1, h.kinds hk.2⟩, ?_⟩
  · unfold Tree.sound at hs ⊢
    simp only [Bool.and_eq_true, decide_eq_true_eq] at hs ⊢
    exact ⟨⟨by rw [h.len]; exact hs.1.1, hs.1.2⟩, h.sound hs.2.1, by rw [h.ext]; exact hs.2.2⟩
  · show 1 + sizes rs = 1 + sizes ts
    rw [h.size]
theorem put_same : ∀ (qs : List Nat) (t s s' : Tree), t.subAt qs = some s → Same s s' → Same t (t.putAt qs s')
  | [], t, s, s', h, hs => by
    have : t = s := by simpa [Tree.subAt] using h
    subst this
    exact hs
  | i :: qs, .leaf b p, s, s', h, hs => by simp [Tree.subAt] at h
  | i :: qs, .split b k ts, s, s', h, hs => by
    cases hi : ts[i]? with
    | none => simp [Tree.subAt, hi] at h
    | some u =>
      have h' : u.subAt qs = some s := by simpa [Tree.subAt, hi] using h
      have hput : (Tree.split b k ts).putAt (i :: qs) s' = .split b k (ts.set i (u.putAt qs s')) := by simp [Tree.putAt, hi]
      rw [hput]
      exact same_split b k ts _ (same_set b k u _ (put_same qs u s s' h' hs) ts i hi)
/-- What stands where a way leads to in a sound tree is sound. -/
theorem sub_sound : ∀ (qs : List Nat) (t s : Tree), t.subAt qs = some s → t.sound = true → t.kinds → s.sound = true ∧ s.kinds ∧ s.size ≤ t.size
  | [], t, s, h, hs, hk => by
    have : t = s := by simpa [Tree.subAt] using h
    subst this
    exact ⟨hs, hk, Nat.le_refl _⟩
  | i :: qs, .leaf b p, s, h, hs, hk => by simp [Tree.subAt] at h
  | i :: qs, .split b k ts, s, h, hs, hk => by
    cases hi : ts[i]? with
    | none => simp [Tree.subAt, hi] at h
    | some u =>
      have h' : u.subAt qs = some s := by simpa [Tree.subAt, hi] using h
      unfold Tree.sound at hs
      simp only [Bool.and_eq_true, decide_eq_true_eq] at hs
      have hsd := soundAll_at ts b k i u hi hs.2.1
      simp only [Bool.and_eq_true] at hsd
      have ih := sub_sound qs u s h' hsd.1 (kindsAll_at ts i u hi hk.2)
      have hz := sizes_at ts i u hi
      refine ⟨ih.1, ih.2.1, ?_⟩
      show s.size ≤ 1 + sizes ts
      have := ih.2.2
      omega

/-- The border behind part a's is pushed by n lines. -/
structure PushT (k : Int) (b : Box) (ts : List Tree) (a : Nat) (n : Int) (rs : List Tree) (c : Nat) (got : Int) : Prop where
  two : 2 ≤ ts.length
  max_ : ts.length ≤ 900
  lt : a < ts.length
  mid : c = min a (ts.length - 2)
  draw : (0 ≤ n → Draw k c (List.range' (c + 1) (ts.length - 1 - c)) n ts rs got) ∧ (n < 0 → Draw k (c + 1) (List.range (c + 1)).reverse (-(max n (-1000))) ts rs got)
  lim : 0 ≤ got ∧ got ≤ 1000000
  same : SameL b k ts rs
theorem draw_lim {k : Int} {c : Nat} {b : Box} : ∀ {js : List Nat} {n : Int} {us rs : List Tree} {got : Int}, Draw k c js n us rs got → 0 ≤ got ∧ got ≤ 1000 * (js.length : Int)
  | [], n, us, rs, got, h => by
    cases h
    simp
  | j :: js, n, us, rs, got, h => by
    cases h with
    | cons _ _ _ d _ _ t t' s s' got' h1 h2 h3 h4 h5 h6 h7 h8 h9 h10 h11 h12 h13 =>
      have ih := draw_lim (b := b) h13
      rw [List.length_cons]
      omega

theorem push_can (b : Box) (k : Int) (ts : List Tree) (a : Nat) (n : Int) (hs : (Tree.split b k ts).sound = true) (hk : (Tree.split b k ts).kinds) (hz : (Tree.split b k ts).size ≤ 900) (ha : a < ts.length) : ∃ rs c got, PushT k b ts a n rs c got := by
  unfold Tree.sound at hs
  simp only [Bool.and_eq_true, decide_eq_true_eq] at hs
  change 1 + sizes ts ≤ 900 at hz
  have h2 := hs.1.1
  have hll := length_sizes ts
  have hsd : (1 ≤ b.w ∧ b.w ≤ 1000) ∧ (1 ≤ b.h ∧ b.h ≤ 1000) := by
    have := hs.1.2
    simp only [sideB, Bool.and_eq_true, decide_eq_true_eq] at this
    exact this
  have hx := sides_ext b k hsd
  obtain ⟨c, hc⟩ : ∃ c, c = min a (ts.length - 2) := ⟨_, rfl⟩
  have hcl : c + 1 < ts.length := by omega
  have hsame : ∀ rs, Set1 ts b k 0 rs → SameL b k ts rs := fun rs h => ⟨h.len, fun _ => h.sound, by rw [h.ext]; omega, fun _ => h.kinds, h.sizes⟩
  by_cases hn : 0 ≤ n
  · obtain ⟨rs, got, h1, h3, h4, h5⟩ := draw_can b k hk.1 c (List.range' (c + 1) (ts.length - 1 - c)) n ts hn (by omega) (fun j hj => by
      rw [List.mem_range'_1] at hj
      omega) hs.2.1 hk.2 (by omega) (by omega)
    have hl := draw_lim (b := b) h1
    rw [List.length_range'] at hl
    exact ⟨rs, c, got, h2, by omega, ha, hc, ⟨fun _ => h1, fun e => absurd e (by omega)⟩, by omega, hsame rs h3⟩
  · obtain ⟨rs, got, h1, h3, h4, h5⟩ := draw_can b k hk.1 (c + 1) (List.range (c + 1)).reverse (-(max n (-1000))) ts (by omega) hcl (fun j hj => by
      rw [List.mem_reverse, List.mem_range] at hj
      omega) hs.2.1 hk.2 (by omega) (by omega)
    have hl := draw_lim (b := b) h1
    rw [List.length_reverse, List.length_range] at hl
    exact ⟨rs, c, got, h2, by omega, ha, hc, ⟨fun e => absurd e hn, fun _ => h1⟩, by omega, hsame rs h3⟩

/-- By how much a border was pushed. -/
def movedI (n got : Int) : Int := if 0 ≤ n then got else -got

theorem push_then {w w' : World} {k : Int} {t : Tree} {qs : List Nat} {a : Nat} {n : Int} {T : TypeId} {g : Nat} {fp : List Nat} {st : List (Nat × Nat)} {j gg : Nat} {b : Box} {ts : List Tree} {f' : List Nat} {w1 : World} {rs : List Tree} {c : Nat} {got : Int} (hA : t.At w1 0 (.iface T (.pointer (some ⟨g, 0, none⟩))) fp) (hnd : fp.Nodup) (hge : ∀ q ∈ fp, w.heap.size + 1 ≤ q) (hN : NearAt w1 k t (.iface T (.pointer (some ⟨g, 0, none⟩))) fp st qs a j gg b ts f') (hbt : But [w.heap.size] w1 w') (hb : Below w.heap.size w w') (hs : t.sound = true) (hk : t.kinds) (hz : t.size ≤ 200) (hP : PushT k b ts a n rs c got) (hn : -9223372036854775808 ≤ n ∧ n ≤ 9223372036854775807) :
    ∀ X, Below w'.heap.size w' X → Calls Try.prog 73 #[.agg #[.pointer (some ⟨gg, 0, none⟩), .int .i64 a], .int .i64 n] X fun e w3 => e = .returned (.int .i64 (movedI n got)) ∧ Calls Try.prog 31 #[.iface T (.pointer (some ⟨g, 0, none⟩))] w3 fun e w4 => ∃ u, e = .returned u ∧ CeOwns w4 w.heap.size u (laidL (t.putAt qs (.split b k rs))) ∧ Below w.heap.size w w4 := by
  intro X hX
  have hfpA : ∀ q ∈ fp, q ∉ [w.heap.size] := fun q hq e => by
    have h1 := hge q hq
    have : q = w.heap.size := by simpa using e
    omega
  have hhere := (hN.here.but hbt (fun q hq => hfpA q (hN.inn q hq))).below hX
  obtain ⟨g0, sl, vs, fs, e0, k2, k3, k4, hf'⟩ := hhere
  cases e0
  have hvl := k4.length
  have h2 := hP.two
  rcases k3.2 with ⟨_, h0⟩ | ⟨pg, cap, cur, rfl, hb0, hg0, hc1, hc2, hc3, hc4⟩
  · omega
  have hnd' : (gg :: ((Value.slice (some ⟨pg, 0, none⟩) vs.length cap).ownBlock.toList ++ fs)).Nodup := hf' ▸ hN.nd
  obtain ⟨L, hL⟩ : ∃ L, ts.length = L := ⟨_, rfl⟩
  have hvL : vs.length = L := hvl.trans hL
  have hI : SplitIn X gg b k pg L cap vs fs 0 ts := ⟨hvL ▸ k2, hvL ▸ k3, k4, hvL ▸ hnd', hL⟩
  have hend : ∀ w3, StandsX X gg b k (.slice (some ⟨pg, 0, none⟩) L cap) vs fs 0 rs w3 → Calls Try.prog 31 #[.iface T (.pointer (some ⟨g, 0, none⟩))] w3 fun e w4 => ∃ u, e = .returned u ∧ CeOwns w4 w.heap.size u (laidL (t.putAt qs (.split b k rs))) ∧ Below w.heap.size w w4 := by
    intro w3 hS
    have hf'e : f' = gg :: ((Value.slice (some ⟨pg, 0, none⟩) L cap).ownBlock.toList ++ fs) := by rw [hf', hvL]
    have hsub : ∀ q, q ∈ gg :: fs → q ∈ f' := fun q hq => by
      rw [hf'e]
      rcases List.mem_cons.1 hq with e | e
      · rw [e]; exact List.mem_cons_self
      · exact List.mem_cons_of_mem _ (List.mem_append_right _ e)
    have hs3 : (Tree.split b k rs).At w3 0 (splitI gg) f' := ⟨gg, _, vs, fs, rfl, hS.own, hS.row, hS.parts, by rw [hf'e]⟩
    have hAt := hN.put w3 (.split b k rs) (fun q hq hnq => by
      have hlt := hA.lt q hq
      have e1 := hbt.block q hlt (hfpA q hq)
      have e2 := hX.block q (Nat.lt_of_lt_of_le hlt hbt.size)
      have e3 := hS.but.block q (Nat.lt_of_lt_of_le (Nat.lt_of_lt_of_le hlt hbt.size) hX.size) (fun e => hnq (hsub q e))
      rw [e3, e2, e1]) hs3
    have hsm := put_same qs t _ _ hN.sub (same_split b k ts rs hP.same)
    refine lay_end (w1 := X) (below_step hb hX) (hS.but.mono fun q hq => hN.inn q (hsub q hq)) (fun q hq => by have := hge q hq; omega) hnd hAt (hsm.sound hs) (hsm.kinds hk) (by rw [hsm.size]; exact hz)
  have hcapL : L ≤ cap := by omega
  by_cases h0 : 0 ≤ n
  · have hD := hP.draw.1 h0
    rw [hL] at hD
    refine (push_pos gg b k pg L cap vs fs 0 ts rs a c n got X hI (by omega) (by have := hP.max_; omega) hcapL (by have := hP.lt; omega) (by rw [hP.mid, hL]) ⟨h0, hn.2⟩ (by rw [hP.same.len]; exact hL) hD).mono fun e w3 h => ⟨?_, hend w3 h.2⟩
    rw [h.1, movedI, if_pos h0]
  · have hD := hP.draw.2 (by omega)
    refine (push_neg gg b k pg L cap vs fs 0 ts rs a c n got X hI (by omega) (by have := hP.max_; omega) hcapL (by have := hP.lt; omega) (by rw [hP.mid, hL]) (by omega) (by rw [hP.same.len]; exact hL) hP.lim hD).mono fun e w3 h => ⟨?_, hend w3 h.2⟩
    rw [h.1, movedI, if_neg h0]

end Go.Proofs.Ytnepemlagnnngaa

namespace Go.Proofs.Ytnepemlagnnngaa
open Go.RowKit
set_option linter.unusedVariables false
set_option maxRecDepth 100000

/-- A list, a number and an error are answered. -/
def Ans3 (mv er : Int) (r : List CellV) (X : World) (e : Ending) (w' : World) : Prop := ∃ q, e = .returned (.tuple #[q, .int .i64 mv, .int .i64 er]) ∧ CeOwns w' X.heap.size q r ∧ Below X.heap.size X w'

theorem pushP_err (v : Value) (q k n er : Int) (w : World) (h : Calls Try.prog 72 #[v, .int .i64 q, .int .i64 k] w (NearErr er w)) (h0 : er ≠ 0) : Calls Try.prog 49 #[v, .int .i64 q, .int .i64 k, .int .i64 n] w (Ans3 0 er [] w) := by
  have HN : Hid (Calls Try.prog 72 #[v, .int .i64 q, .int .i64 k] w (NearErr er w)) := h
  have h0' : (er != 0) = true := by simpa using h0
  clear h h0
  go_enter Try.func49, Try.ntmps49
  go_wp2_with fail
  refine HN.out.mono ?_
  rintro e w1 ⟨rfl, hb⟩
  have HB : Hid (∀ o, Below w.heap.size w (w1.alloc o)) := fun o => below_step hb ((Below.refl _ _).alloc (Nat.le_refl _) o)
  clear hb HN
  go_wp2
  exact bodyPost_ret (v := .tuple #[.slice none 0 0, .int .i64 0, .int .i64 er]) (by simp [results, Try.results49, go_sem]) rfl ⟨_, rfl, World.ownsRow_nil _ _ _ _, HB.out _⟩

theorem pushP_ok (v : Value) (q k n : Int) (w : World) {t : Tree} {qs : List Nat} {a : Nat} {b : Box} {ts rs : List Tree} {c : Nat} {got : Int} (h : Calls Try.prog 72 #[v, .int .i64 q, .int .i64 k] w (NearYes k t qs a w)) (hs : t.sound = true) (hk : t.kinds) (hz : t.size ≤ 200) (hsub : t.subAt qs = some (.split b k ts)) (hP : PushT k b ts a n rs c got) (hn : -9223372036854775808 ≤ n ∧ n ≤ 9223372036854775807) : Calls Try.prog 49 #[v, .int .i64 q, .int .i64 k, .int .i64 n] w (Ans3 (movedI n got) 0 (laidL (t.putAt qs (.split b k rs))) w) := by
  have HN : Hid (Calls Try.prog 72 #[v, .int .i64 q, .int .i64 k] w fun e w' => ∃ T g gg, e = .returned (.tuple #[.iface T (.pointer (some ⟨g, 0, none⟩)), .agg #[.pointer (some ⟨gg, 0, none⟩), .int .i64 a], .int .i64 0]) ∧ ∀ X, Below w'.heap.size w' X → Calls Try.prog 73 #[.agg #[.pointer (some ⟨gg, 0, none⟩), .int .i64 a], .int .i64 n] X fun e w3 => e = .returned (.int .i64 (movedI n got)) ∧ Calls Try.prog 31 #[.iface T (.pointer (some ⟨g, 0, none⟩))] w3 fun e w4 => ∃ u, e = .returned u ∧ CeOwns w4 w.heap.size u (laidL (t.putAt qs (.split b k rs))) ∧ Below w.heap.size w w4) := h.mono fun e w' h => by
    obtain ⟨T, g, fp, st, j, gg, b', ts', f', w1, he, hA, hnd, hge, hN, hbt, hb⟩ := h
    have hs' := hN.sub
    rw [hsub] at hs'
    cases hs'
    exact ⟨T, g, gg, he, push_then hA hnd hge hN hbt hb hs hk hz hP hn⟩
  obtain ⟨mv, hmv⟩ : ∃ m, movedI n got = m := ⟨_, rfl⟩
  obtain ⟨LT, hLT⟩ : ∃ m, laidL (t.putAt qs (.split b k rs)) = m := ⟨_, rfl⟩
  rw [hmv, hLT] at HN ⊢
  clear h hs hk hz hsub hP hn hmv hLT
  go_enter Try.func49, Try.ntmps49
  go_wp2_with fail
  refine HN.out.mono ?_
  rintro e w1 ⟨T, g, gg, rfl, hp⟩
  have HP : Hid (∀ o, Calls Try.prog 73 #[.agg #[.pointer (some ⟨gg, 0, none⟩), .int .i64 a], .int .i64 n] (w1.alloc o) fun e w3 => e = .returned (.int .i64 mv) ∧ Calls Try.prog 31 #[.iface T (.pointer (some ⟨g, 0, none⟩))] w3 fun e w4 => ∃ u, e = .returned u ∧ CeOwns w4 w.heap.size u LT ∧ Below w.heap.size w w4) := fun o => hp _ ((Below.refl _ _).alloc (Nat.le_refl _) o)
  clear hp HN
  go_wp2_with fail
  refine (HP.out _).mono ?_
  rintro e w3 ⟨rfl, hl⟩
  have HL : Hid (Calls Try.prog 31 #[.iface T (.pointer (some ⟨g, 0, none⟩))] w3 fun e w4 => ∃ u, e = .returned u ∧ CeOwns w4 w.heap.size u LT ∧ Below w.heap.size w w4) := hl
  clear hl HP
  go_wp2_with fail
  refine HL.out.mono ?_
  rintro e w4 ⟨u, rfl, hu, hb4⟩
  have HU : Hid (CeOwns w4 w.heap.size u LT ∧ Below w.heap.size w w4) := ⟨hu, hb4⟩
  clear hu hb4 HL
  go_wp2
  exact bodyPost_ret (v := .tuple #[u, .int .i64 mv, .int .i64 0]) (by simp [results, Try.results49, go_sem]) rfl ⟨u, rfl, HU.out.1, HU.out.2⟩

end Go.Proofs.Ytnepemlagnnngaa

namespace Go.Proofs.Ytnepemlagnnngaa
open Go.RowKit
set_option linter.unusedVariables false
set_option maxRecDepth 100000

/-- The first of some parts that has room; -1: none. -/
def giveF (k : Int) (us : List Tree) : List Nat → Int
  | [] => -1
  | j :: js => match us[j]? with
    | some t => if 0 < t.room k then (j : Int) else giveF k us js
    | none => -1
theorem range_back (j : Nat) : (List.range (j + 1)).reverse = j :: (List.range j).reverse := by
  rw [List.range_succ, List.reverse_append]
  rfl

end Go.Proofs.Ytnepemlagnnngaa

namespace Go.Proofs.Ytnepemlagnnngaa
open Go.RowKit
set_option linter.unusedVariables false
set_option maxRecDepth 20000

theorem give_none (k : Int) (us : List Tree) : ∀ (js : List Nat), (∀ i ∈ js, ∃ t, us[i]? = some t ∧ t.room k = 0) → giveF k us js = -1
  | [], h => rfl
  | j :: js, h => by
    obtain ⟨t, h1, h2⟩ := h j List.mem_cons_self
    simp only [giveF, h1, h2]
    rw [if_neg (by decide)]
    exact give_none k us js fun i hi => h i (List.mem_cons_of_mem _ hi)
theorem give_first (k : Int) (us : List Tree) (j : Nat) (t : Tree) (js : List Nat) (ht : us[j]? = some t) (hr : 0 < t.room k) : ∀ (pre : List Nat), (∀ i ∈ pre, ∃ t, us[i]? = some t ∧ t.room k = 0) → giveF k us (pre ++ j :: js) = j
  | [], h => by
    show giveF k us (j :: js) = j
    simp only [giveF, ht]
    rw [if_pos hr]
  | i :: pre, h => by
    obtain ⟨t', h1, h2⟩ := h i List.mem_cons_self
    show giveF k us (i :: (pre ++ j :: js)) = j
    simp only [giveF, h1, h2]
    rw [if_neg (by decide)]
    exact give_first k us j t js ht hr pre fun i hi => h i (List.mem_cons_of_mem _ hi)

/-- Parts that can be measured. -/
structure Fit (k : Int) (us : List Tree) : Prop where
  sound : ∃ b, soundAll us b k = true
  kinds : kindsAll us
  sizes : sizes us ≤ 900
/-- The document draws lines: the first part with room gives, again and again. -/
inductive Giv (k : Int) (c : Nat) (full : List Nat) : Int → List Tree → List Tree → Int → Prop
  | done (n : Int) (us : List Tree) : Fit k us → (n ≤ 0 ∨ giveF k us full = -1) → Giv k c full n us us 0
  | step (n d : Int) (us rs : List Tree) (j : Nat) (t t' s s' : Tree) (got : Int) : Fit k us → 0 < n → giveF k us full = j → us[j]? = some t → d = min n (t.room k) → 0 < d → d ≤ 1000 → Str t k (-d) t' → (us.set j t')[c]? = some s → Str s k d s' → Giv k c full (n - d) ((us.set j t').set c s') rs got → Giv k c full n us rs (d + got)

theorem rooms_at : ∀ (us : List Tree) (b : Box) (k j : Int) (i : Nat) (t : Tree), us[i]? = some t → soundAll us b k = true → t.room j ≤ roomAll us j
  | [], b, k, j, i, t, h, hs => by simp at h
  | a :: us, b, k, j, 0, t, h, hs => by
    cases h
    unfold soundAll at hs
    simp only [Bool.and_eq_true] at hs
    have h1 := (rooms_bound us b k j hs.2).1
    show a.room j ≤ a.room j + roomAll us j
    omega
  | a :: us, b, k, j, i + 1, t, h, hs => by
    unfold soundAll at hs
    simp only [Bool.and_eq_true] at hs
    have h1 := rooms_at us b k j i t (by simpa using h) hs.2
    have h2 := room_bound a j hs.1.1
    show t.room j ≤ a.room j + roomAll us j
    omega
theorem rooms_two : ∀ (us : List Tree) (b : Box) (k j : Int) (i c : Nat) (t s : Tree), us[i]? = some t → us[c]? = some s → i ≠ c → soundAll us b k = true → t.room j + s.room j ≤ roomAll us j
  | [], b, k, j, i, c, t, s, h, _, _, hs => by simp at h
  | a :: us, b, k, j, 0, 0, t, s, h, h', hne, hs => absurd rfl hne
  | a :: us, b, k, j, 0, c + 1, t, s, h, h', hne, hs => by
    cases h
    unfold soundAll at hs
    simp only [Bool.and_eq_true] at hs
    have h1 := rooms_at us b k j c s (by simpa using h') hs.2
    show a.room j + s.room j ≤ a.room j + roomAll us j
    omega
  | a :: us, b, k, j, i + 1, 0, t, s, h, h', hne, hs => by
    cases h'
    unfold soundAll at hs
    simp only [Bool.and_eq_true] at hs
    have h1 := rooms_at us b k j i t (by simpa using h) hs.2
    show t.room j + a.room j ≤ a.room j + roomAll us j
    omega
  | a :: us, b, k, j, i + 1, c + 1, t, s, h, h', hne, hs => by
    unfold soundAll at hs
    simp only [Bool.and_eq_true] at hs
    have h1 := rooms_two us b k j i c t s (by simpa using h) (by simpa using h') (by omega) hs.2
    have h2 := room_bound a j hs.1.1
    show t.room j + s.room j ≤ a.room j + roomAll us j
    omega
theorem set_self (us : List Tree) (i : Nat) (t : Tree) (h : us[i]? = some t) : us.set i t = us := by
  apply List.ext_getElem?
  intro q
  by_cases e : i = q
  · subst e
    rw [List.getElem?_set_self (List.getElem?_eq_some_iff.1 h).1, h]
  · rw [List.getElem?_set_ne e]

theorem back_nodup : ∀ c : Nat, (List.range c).reverse.Nodup
  | 0 => List.nodup_nil
  | c + 1 => by
    rw [range_back]
    refine List.nodup_cons.2 ⟨fun h => ?_, back_nodup c⟩
    rw [List.mem_reverse, List.mem_range] at h
    omega

/-- How many lines the two ask for: as many, or more than there are. -/
def Enough (k : Int) (us : List Tree) (c : Nat) (n n' : Int) : Prop := n' = n ∨ (n' ≤ n ∧ ∃ s, us[c]? = some s ∧ roomAll us k - s.room k ≤ n')

theorem both_can (b : Box) (k : Int) (hk : k = 2 ∨ k = 3) (c : Nat) (full : List Nat) (hnd : full.Nodup) : ∀ (js pre : List Nat) (n n' : Int) (us : List Tree), full = pre ++ js → (n' ≤ 0 ∨ ∀ i ∈ pre, ∃ t, us[i]? = some t ∧ t.room k = 0) → 0 ≤ n → 0 ≤ n' → Enough k us c n n' → c < us.length → (∀ j ∈ full, j < us.length ∧ j ≠ c) → soundAll us b k = true → kindsAll us → sizes us ≤ 900 → extAll us k ≤ 1000 →
    ∃ rs got, Draw k c js n us rs got ∧ Set1 us b k 0 rs ∧ 0 ≤ got ∧ got ≤ n ∧ Giv k c full n' us rs got
  | [], pre, n, n', us, hf, hp, hn, hn', hE, hc, hj, hs, hks, hz, he => by
    refine ⟨us, 0, .nil n us, ⟨rfl, rfl, by omega, by omega, rfl, hs, hks, rfl⟩, Int.le_refl _, hn, .done n' us ⟨⟨b, hs⟩, hks, hz⟩ ?_⟩
    rcases hp with h | h
    · exact .inl h
    · rw [hf, List.append_nil]
      exact .inr (give_none k us pre h)
  | j :: js, pre, n, n', us, hf, hp, hn, hn', hE, hc, hj, hs, hks, hz, he => by
    have hjm : j ∈ full := by rw [hf]; simp
    obtain ⟨hjl, hjc⟩ := hj j hjm
    obtain ⟨t, ht⟩ : ∃ t, us[j]? = some t := ⟨_, List.getElem?_eq_getElem hjl⟩
    have hsd := soundAll_at us b k j t ht hs
    simp only [Bool.and_eq_true, decide_eq_true_eq] at hsd
    have hkt := kindsAll_at us j t ht hks
    have hst := sizes_at us j t ht
    have hex := ext_at us b k j t ht hs
    have hrm := room_bound t k hsd.1
    have hrl := room_le t k hk hkt hsd.1
    have hsid := sides_ext t.box k (t.sound_sides hsd.1)
    obtain ⟨d, hd⟩ : ∃ d, d = min n (t.room k) := ⟨_, rfl⟩
    have hd' : d = min n' (t.room k) := by
      rcases hE with h | ⟨h, s, h1, h2⟩
      · rw [h]; exact hd
      · have := rooms_two us b k k j c t s ht h1 hjc hs
        omega
    obtain ⟨t', h1, g1⟩ := can_str t k (-d) hk hsd.1 hkt (by omega) (by omega) (by omega)
    have hset := set_one t t' b k (-d) hk g1 us j ht hs hks
    have hcl : c < (us.set j t').length := by rw [List.length_set]; exact hc
    obtain ⟨s, hsc⟩ : ∃ s, (us.set j t')[c]? = some s := ⟨_, List.getElem?_eq_getElem hcl⟩
    have hsc0 : us[c]? = some s := by rw [List.getElem?_set_ne hjc] at hsc; exact hsc
    have hsd2 := soundAll_at _ b k c s hsc hset.sound
    simp only [Bool.and_eq_true, decide_eq_true_eq] at hsd2
    have hks2 := kindsAll_at _ c s hsc hset.kinds
    have hst2 := sizes_at _ c s hsc
    have hex2 := ext_at _ b k c s hsc hset.sound
    have hrm2 := room_bound s k hsd2.1
    rw [hset.sizes] at hst2
    rw [hset.ext] at hex2
    obtain ⟨s', h2, g2⟩ := can_str s k d hk hsd2.1 hks2 (by omega) (by omega) (by omega)
    have hset2 := set_one s s' b k d hk g2 (us.set j t') c hsc hset.sound hset.kinds
    have h12 : Set1 us b k 0 ((us.set j t').set c s') := by
      have := hset.trans hset2
      rwa [show -d + d = 0 by omega] at this
    have hnp : ∀ i ∈ pre, i ≠ j := fun i hi e => by
      have h := hnd
      rw [hf, List.nodup_append] at h
      exact h.2.2 i hi j List.mem_cons_self e
    have hget : ∀ i, i ≠ j → i ≠ c → ((us.set j t').set c s')[i]? = us[i]? := fun i hi hi2 => by
      rw [List.getElem?_set_ne (Ne.symm hi2), List.getElem?_set_ne (Ne.symm hi)]
    have hgetj : ((us.set j t').set c s')[j]? = some t' := by
      rw [List.getElem?_set_ne (Ne.symm hjc), List.getElem?_set_self hjl]
    have hgetc : ((us.set j t').set c s')[c]? = some s' := List.getElem?_set_self hcl
    have hE2 : Enough k ((us.set j t').set c s') c (n - d) (n' - d) := by
      rcases hE with h | ⟨h, s0, e1, e2⟩
      · exact .inl (by rw [h])
      · rw [hsc0] at e1
        cases e1
        refine .inr ⟨by omega, s', hgetc, ?_⟩
        rw [h12.rooms, g2.room]
        omega
    have hp2 : n' - d ≤ 0 ∨ ∀ i ∈ pre ++ [j], ∃ t, ((us.set j t').set c s')[i]? = some t ∧ t.room k = 0 := by
      by_cases h0 : n' - d ≤ 0
      · exact .inl h0
      · refine .inr fun i hi => ?_
        rcases List.mem_append.1 hi with hi | hi
        · rcases hp with h | h
          · omega
          · obtain ⟨u, e1, e2⟩ := h i hi
            refine ⟨u, ?_, e2⟩
            rw [hget i (hnp i hi) (hj i (by rw [hf]; exact List.mem_append_left _ hi)).2]
            exact e1
        · have : i = j := by simpa using hi
          subst this
          refine ⟨t', hgetj, ?_⟩
          rw [g1.room]
          omega
    obtain ⟨rs, got, h3, h4, h5, h6, h7⟩ := both_can b k hk c full hnd js (pre ++ [j]) (n - d) (n' - d) ((us.set j t').set c s') (by rw [hf]; simp) hp2 (by omega) (by omega) hE2 (by rw [h12.len]; exact hc) (fun i hi => by rw [h12.len]; exact hj i hi) h12.sound h12.kinds (by rw [h12.sizes]; exact hz) (by rw [h12.ext]; omega)
    have hset4 : Set1 us b k 0 rs := by
      have := h12.trans h4
      rwa [Int.zero_add] at this
    refine ⟨rs, d + got, .cons j js n d us rs t t' s s' got ht hsd.1 hkt (by omega) hd (by omega) (by omega) g1.size h1 hsc g2.size h2 h3, hset4, by omega, by omega, ?_⟩
    by_cases h0 : d = 0
    · subst h0
      have et : t' = t := str_zero _ t (Nat.le_refl _) k t' (by simpa using h1)
      have es : s' = s := str_zero _ s (Nat.le_refl _) k s' h2
      subst et
      subst es
      rw [set_self us j _ ht, set_self us c _ hsc0, Int.sub_zero] at h7
      rw [Int.zero_add]
      exact h7
    · refine .step n' d us rs j t t' s s' got ⟨⟨b, hs⟩, hks, hz⟩ (by omega) ?_ ht hd' (by omega) (by omega) h1 hsc h2 h7
      rw [hf]
      refine give_first k us j t js ht (by omega) pre ?_
      rcases hp with h | h
      · omega
      · exact h

/-- The border behind part c's is pushed by n lines, as the document does it. -/
structure PushG (k : Int) (ts : List Tree) (n : Int) (rs : List Tree) (c : Nat) (got : Int) : Prop where
  draw : (0 ≤ n → Giv k c (List.range' (c + 1) (ts.length - 1 - c)) (min n 1000) ts rs got) ∧ (n < 0 → Giv k (c + 1) (List.range (c + 1)).reverse (-(max n (-1000))) ts rs got)

theorem push_both (b : Box) (k : Int) (ts : List Tree) (a : Nat) (n : Int) (hs : (Tree.split b k ts).sound = true) (hk : (Tree.split b k ts).kinds) (hz : (Tree.split b k ts).size ≤ 900) (ha : a < ts.length) : ∃ rs c got, PushT k b ts a n rs c got ∧ PushG k ts n rs c got ∧ idls rs = idls ts := by
  unfold Tree.sound at hs
  simp only [Bool.and_eq_true, decide_eq_true_eq] at hs
  change 1 + sizes ts ≤ 900 at hz
  have h2 := hs.1.1
  have hll := length_sizes ts
  have hsd : (1 ≤ b.w ∧ b.w ≤ 1000) ∧ (1 ≤ b.h ∧ b.h ≤ 1000) := by
    have := hs.1.2
    simp only [sideB, Bool.and_eq_true, decide_eq_true_eq] at this
    exact this
  have hx := sides_ext b k hsd
  have hrl := (rooms_le ts b k k hk.1 hk.1 hk.2 hs.2.1).1
  obtain ⟨c, hc⟩ : ∃ c, c = min a (ts.length - 2) := ⟨_, rfl⟩
  have hcl : c + 1 < ts.length := by omega
  have hsame : ∀ rs, Set1 ts b k 0 rs → SameL b k ts rs := fun rs h => ⟨h.len, fun _ => h.sound, by rw [h.ext]; omega, fun _ => h.kinds, h.sizes⟩
  by_cases hn : 0 ≤ n
  · have hE : Enough k ts c n (min n 1000) := by
      obtain ⟨s, hsc⟩ : ∃ s, ts[c]? = some s := ⟨_, List.getElem?_eq_getElem (by omega)⟩
      have hsd2 := soundAll_at ts b k c s hsc hs.2.1
      simp only [Bool.and_eq_true] at hsd2
      have h4 := room_bound s k hsd2.1
      by_cases h5 : n ≤ 1000
      · exact .inl (by omega)
      · exact .inr ⟨by omega, s, hsc, by omega⟩
    obtain ⟨rs, got, h1, h3, h4, h5, h6⟩ := both_can b k hk.1 c (List.range' (c + 1) (ts.length - 1 - c)) List.nodup_range' (List.range' (c + 1) (ts.length - 1 - c)) [] n (min n 1000) ts rfl (.inr fun i hi => by cases hi) hn (by omega) hE (by omega) (fun j hj => by
      rw [List.mem_range'_1] at hj
      omega) hs.2.1 hk.2 (by omega) (by omega)
    have hl := draw_lim (b := b) h1
    rw [List.length_range'] at hl
    exact ⟨rs, c, got, ⟨h2, by omega, ha, hc, ⟨fun _ => h1, fun e => absurd e (by omega)⟩, by omega, hsame rs h3⟩, ⟨fun _ => h6, fun e => absurd e (by omega)⟩, h3.ids⟩
  · obtain ⟨rs, got, h1, h3, h4, h5, h6⟩ := both_can b k hk.1 (c + 1) (List.range (c + 1)).reverse (back_nodup (c + 1)) (List.range (c + 1)).reverse [] (-(max n (-1000))) (-(max n (-1000))) ts rfl (.inr fun i hi => by cases hi) (by omega) (by omega) (.inl rfl) hcl (fun j hj => by
      rw [List.mem_reverse, List.mem_range] at hj
      omega) hs.2.1 hk.2 (by omega) (by omega)
    have hl := draw_lim (b := b) h1
    rw [List.length_reverse, List.length_range] at hl
    exact ⟨rs, c, got, ⟨h2, by omega, ha, hc, ⟨fun e => absurd e hn, fun _ => h1⟩, by omega, hsame rs h3⟩, ⟨fun e => absurd e hn, fun _ => h6⟩, h3.ids⟩

end Go.Proofs.Ytnepemlagnnngaa

namespace Go.Proofs.Ytnepemlagnnngaa
open Go.RowKit
set_option linter.unusedVariables false
set_option maxRecDepth 20000

/-- The children while a border is moved. -/
structure BordN (w : World) (k wd ht : Int) (sl : Value) (g L cap : Nat) (fp : List Nat) (rs : List Tree) (c : Nat) (full : List Nat) (n got : Int) (wr : World) (us : List Tree) : Prop where
  giv : Giv k c full n us rs got
  kids : KidsAt g L cap fp us wr
  mid : Mid w k wd ht k wd ht 0 sl (.slice (some ⟨g, 0, none⟩) L cap) wr
/-- One child, and what else is read while it is stretched. -/
def KidC (w : World) (k : Int) (g L cap i : Nat) (wr : World) (nn : Node) (sl : Value) : Prop := ∀ X, Below wr.heap.size wr X → (∀ o, X.frozen? ⟨g, o, none⟩ = false) ∧ KidIn X g (i * 5) nn sl ∧ X.cell? ⟨w.heap.size + 1 + 1, 4, none⟩ = some (.slice (some ⟨g, 0, none⟩) L cap) ∧ X.cell? ⟨w.heap.size, 0, none⟩ = some (.int .i64 k)
theorem kidC_of {w : World} {k wd ht : Int} {sl : Value} {g L cap i : Nat} {fp : List Nat} {us : List Tree} {wr : World} {nn : Node} {sn : Value} (hK : KidsAt g L cap fp us wr) (hM : Mid w k wd ht k wd ht 0 sl (.slice (some ⟨g, 0, none⟩) L cap) wr) (hk : KidIn wr g (i * 5) nn sn) : KidC w k g L cap i wr nn sn := fun X hX => by
  have hfz : ∀ o, wr.frozen? ⟨g, o, none⟩ = false := fun o => by
    obtain ⟨cs, fs, h1, _⟩ := hK.row
    exact World.ownsRow.frozenAt h1 o
  have h := kid_cells (w := w) (L := L) (cap := cap) hK.lt (lt_of_block hM.new) hfz hk (cell_atL hM.new 4) X hX
  exact ⟨h.1, h.2.1, h.2.2, cell_atL (hM.below' hX).par 0⟩
theorem bord_end {w : World} {k wd ht : Int} {sl : Value} {g L cap : Nat} {fp : List Nat} {rs : List Tree} {c : Nat} {full : List Nat} {n got : Int} {wr : World} {us : List Tree} (h : BordN w k wd ht sl g L cap fp rs c full n got wr us) (hn : ¬ 0 < n) : us = rs ∧ got = 0 := by
  obtain ⟨hG, hK, hM⟩ := h
  cases hG with
  | done _ _ hf hd => exact ⟨rfl, rfl⟩
  | step _ d _ _ j t t' s s' got' hf h0 => omega
theorem bord_fit {w : World} {k wd ht : Int} {sl : Value} {g L cap : Nat} {fp : List Nat} {rs : List Tree} {c : Nat} {full : List Nat} {n got : Int} {wr : World} {us : List Tree} (h : BordN w k wd ht sl g L cap fp rs c full n got wr us) : Fit k us := by
  obtain ⟨hG, hK, hM⟩ := h
  cases hG with
  | done _ _ hf hd => exact hf
  | step _ d _ _ j t t' s s' got' hf h0 => exact hf

/-- What border answers. -/
def BordA (b : Box) (k : Int) (rs : List Tree) (mv : Int) (fp : List Nat) (w : World) (e : Ending) (w' : World) : Prop := ∃ sa sn sc fp', e = .returned (.tuple #[.agg (nodeV (nodeOf (.split b k rs)) (.slice sa sn sc)), .int .i64 mv]) ∧ (nodeOf (.split b k rs)).In w' (.slice sa sn sc) fp' ∧ (∀ q ∈ fp', q ∈ fp ∨ w.heap.size ≤ q) ∧ Below w.heap.size w w'
theorem bord_answer {w : World} {b : Box} {k : Int} {sl : Value} {g L cap : Nat} {fp : List Nat} {rs : List Tree} {wr : World} (mv : Int) (hK : KidsAt g L cap fp rs wr) (hM : Mid w k b.w b.h k b.w b.h 0 sl (.slice (some ⟨g, 0, none⟩) L cap) wr) (hg : w.heap.size + 2 < g) (hlt : ∀ q ∈ fp, q < w.heap.size) (v0 v1 v2 v3 v4 : Value) :
    BordA b k rs mv fp w (.returned (.tuple #[.agg #[.int .i64 k, .int .i64 b.w, .int .i64 b.h, .int .i64 0, .slice (some ⟨g, 0, none⟩) L cap], .int .i64 mv])) (set5 wr (w.heap.size + 1) v0 v1 v2 v3 v4) := by
  obtain ⟨sa, sn, sc, fp', he, h1, h2, h3⟩ := strN_end (t' := .split b k rs) hK hM hg hlt rfl v0 v1 v2 v3 v4
  refine ⟨sa, sn, sc, fp', ?_, h1, h2, h3⟩
  have := (Value.agg.injEq _ _).mp ((Ending.returned.injEq _ _).mp he)
  rw [this]

end Go.Proofs.Ytnepemlagnnngaa

namespace Go.Proofs.Ytnepemlagnnngaa
open Go.RowKit
set_option linter.unusedVariables false
set_option maxRecDepth 20000

theorem pathAll_first (q : Int) : ∀ (ts : List Tree) (k : Nat) (qs : List Nat), pathAll ts q k = some qs → ∃ i t ps, qs = (k + i) :: ps ∧ ts[i]? = some t ∧ t.path q = some ps ∧ ∀ (a : Nat) u, a < i → ts[a]? = some u → u.path q = none
  | [], k, qs, h => by unfold pathAll at h; cases h
  | t :: ts, k, qs, h => by
    unfold pathAll at h
    cases hp : t.path q with
    | some ps =>
      rw [hp] at h
      cases h
      exact ⟨0, t, ps, rfl, rfl, hp, fun a u ha => absurd ha (Nat.not_lt_zero _)⟩
    | none =>
      rw [hp] at h
      obtain ⟨i, t', ps, e, h1, h2, h3⟩ := pathAll_first q ts (k + 1) qs h
      refine ⟨i + 1, t', ps, by rw [e, show k + 1 + i = k + (i + 1) by omega], by simpa using h1, h2, fun a u ha hu => ?_⟩
      cases a with
      | zero => simp at hu; subst hu; exact hp
      | succ a => exact h3 a u (by omega) (by simpa using hu)
theorem ids_idl (t : Tree) (hk : t.kinds) : (nodeOf t).ids = t.idl := (ids_told t 0 hk).trans (idl_told t 0 hk).symm
theorem idl_ne (t : Tree) (hk : t.kinds) (hs : t.sound = true) : (nodeOf t).ids ≠ [] := fun e => by
  have := size_ids t hk hs
  rw [e] at this
  simp at this

/-- The border behind part c is moved by m lines, as the document does it. -/
structure Moved (k : Int) (ts : List Tree) (m : Int) (rs : List Tree) (c : Nat) (got : Int) : Prop where
  lo : -1000 ≤ m
  hi : m ≤ 1000
  on : 0 ≤ m → Giv k c (List.range' (c + 1) (ts.length - 1 - c)) m ts rs got
  back : m < 0 → Giv k (c + 1) (List.range (c + 1)).reverse (-m) ts rs got

/-- By how many lines: as it is said, or so that the part has the extent that is said. -/
def byOf (set : Bool) (n k : Int) (ts : List Tree) (a : Nat) (s : Tree) : Int := if set = true then (if min a (ts.length - 2) = a then n - s.box.ext k else -(n - s.box.ext k)) else n
/-- What pushed makes of a tree: the tree, how far, whether there was a border. -/
inductive Pu (set : Bool) (n k : Int) : Tree → List Nat → Tree → Int → Bool → Prop
  | leaf (b : Box) (p : Int) : Pu set n k (.leaf b p) [] (.leaf b p) 0 false
  | deep (b : Box) (k' : Int) (ts : List Tree) (i : Nat) (ps : List Nat) (s s' : Tree) (mv : Int) : ts[i]? = some s → Pu set n k s ps s' mv true → Pu set n k (.split b k' ts) (i :: ps) (.split b k' (ts.set i s')) mv true
  | none (b : Box) (k' : Int) (ts : List Tree) (i : Nat) (ps : List Nat) (s : Tree) : ts[i]? = some s → Pu set n k s ps s 0 false → k' ≠ k → Pu set n k (.split b k' ts) (i :: ps) (.split b k' ts) 0 false
  | here (b : Box) (ts : List Tree) (i : Nat) (ps : List Nat) (s : Tree) (rs : List Tree) (c : Nat) (got : Int) : ts[i]? = some s → Pu set n k s ps s 0 false → c = min i (ts.length - 2) → Moved k ts (byOf set n k ts i s) rs c got → Pu set n k (.split b k ts) (i :: ps) (.split b k rs) (movedI (byOf set n k ts i s) got) true
/-- What pushed answers. -/
def PuA (t' : Tree) (mv : Int) (ok : Bool) (fp : List Nat) (w : World) (e : Ending) (w' : World) : Prop := ∃ sa sn sc fp', e = .returned (.tuple #[.agg (nodeV (nodeOf t') (.slice sa sn sc)), .int .i64 mv, .bool ok]) ∧ (nodeOf t').In w' (.slice sa sn sc) fp' ∧ (∀ q ∈ fp', q ∈ fp ∨ w.heap.size ≤ q) ∧ Below w.heap.size w w'
/-- The way's nearest split, and what pushed makes. -/
theorem pu_none (set : Bool) (n k : Int) : ∀ (ps : List Nat) (t : Tree) (q : Int), t.path q = some ps → nearF k t ps = none → Pu set n k t ps t 0 false
  | [], .leaf b p, q, hp, hn => .leaf b p
  | i :: ps, .leaf b p, q, hp, hn => by
    unfold Tree.path at hp
    split at hp
    · cases hp
    · cases hp
  | qs, .split b k' ts, q, hp, hn => by
    unfold Tree.path at hp
    obtain ⟨i, s, ps, e, h1, h2, h3⟩ := pathAll_first q ts 0 qs hp
    rw [Nat.zero_add] at e
    subst e
    cases hs : nearF k s ps with
    | some r => simp only [nearF, h1, hs] at hn; cases hn
    | none =>
      simp only [nearF, h1, hs] at hn
      split at hn
      · cases hn
      · rename_i e
        exact .none b k' ts i ps s h1 (pu_none set n k ps s q h2 hs) e
  termination_by ps => ps.length
theorem pu_some (set : Bool) (n k : Int) : ∀ (ps : List Nat) (t : Tree) (q : Int) (qs : List Nat) (a : Nat) (b : Box) (ts : List Tree) (s : Tree) (rs : List Tree) (c : Nat) (got : Int), t.path q = some ps → nearF k t ps = some (qs, a) → t.subAt qs = some (.split b k ts) → ts[a]? = some s → c = min a (ts.length - 2) → Moved k ts (byOf set n k ts a s) rs c got → Pu set n k t ps (t.putAt qs (.split b k rs)) (movedI (byOf set n k ts a s) got) true
  | [], t, q, qs, a, b, ts, s, rs, c, got, hp, hn, hsub, ha, hc, hM => by simp [nearF] at hn
  | i :: ps, .leaf b' p, q, qs, a, b, ts, s, rs, c, got, hp, hn, hsub, ha, hc, hM => by simp [nearF] at hn
  | i :: ps, .split b' k' us, q, qs, a, b, ts, s, rs, c, got, hp, hn, hsub, ha, hc, hM => by
    unfold Tree.path at hp
    obtain ⟨i', u, ps', e, h1, h2, h3⟩ := pathAll_first q us 0 _ hp
    rw [Nat.zero_add] at e
    injection e with e1 e2
    subst e1
    subst e2
    cases hs : nearF k u ps with
    | some r =>
      obtain ⟨qs', a'⟩ := r
      simp only [nearF, h1, hs] at hn
      cases hn
      simp only [Tree.subAt, h1] at hsub
      have := pu_some set n k ps u q _ _ b ts s rs c got h2 hs hsub ha hc hM
      have hput : (Tree.split b' k' us).putAt (i :: qs') (.split b k rs) = .split b' k' (us.set i (u.putAt qs' (.split b k rs))) := by simp [Tree.putAt, h1]
      rw [hput]
      exact .deep b' k' us i ps u _ _ h1 this
    | none =>
      simp only [nearF, h1, hs] at hn
      split at hn
      · rename_i e
        subst e
        cases hn
        simp only [Tree.subAt, Option.some.injEq, Tree.split.injEq] at hsub
        obtain ⟨rfl, _, rfl⟩ := hsub
        rw [h1] at ha
        have hus : u = s := Option.some.inj ha
        subst hus
        show Pu set n k' (.split b' k' us) (i :: ps) (.split b' k' rs) _ true
        exact .here b' us i ps u rs c got h1 (pu_none set n k' ps u q h2 hs) hc hM
      · cases hn

end Go.Proofs.Ytnepemlagnnngaa

namespace Go.Proofs.Ytnepemlagnnngaa
open Go.RowKit
set_option linter.unusedVariables false
set_option maxRecDepth 100000

theorem near_part {w w' w1 : World} {k : Int} {t : Tree} {v : Value} {qs : List Nat} {a : Nat} {fp : List Nat} {st : List (Nat × Nat)} {j gg : Nat} {b : Box} {ts : List Tree} {f' : List Nat} {s : Tree} (hge : ∀ q ∈ fp, w.heap.size + 1 ≤ q) (hN : NearAt w1 k t v fp st qs a j gg b ts f') (hbt : But [w.heap.size] w1 w') (hsa : ts[a]? = some s) :
    ∃ pg cap Ta ga, (∀ X, (method 279 Ta (.pointer (some ⟨ga, 0, none⟩)) "mullion/layout.extent").run Try.prog X = .ok (27, .pointer (some ⟨ga, 0, none⟩)) X) ∧ (∀ X, (nilAhead 279 Ta (.pointer (some ⟨ga, 0, none⟩)) "mullion/layout.extent").run Try.prog X = .ok (some false) X) ∧ ∀ X, Below w'.heap.size w' X → X.cell? ⟨gg, 5, none⟩ = some (.slice (some ⟨pg, 0, none⟩) ts.length cap) ∧ X.cell? ⟨pg, a, none⟩ = some (.iface Ta (.pointer (some ⟨ga, 0, none⟩))) ∧ ∀ d, Calls Try.prog 27 #[.pointer (some ⟨ga, 0, none⟩), .int .i64 d] X fun e w2 => e = .returned (.int .i64 (s.box.ext d)) ∧ X = w2 := by
  have hfpA : ∀ q ∈ fp, q ∉ [w.heap.size] := fun q hq e => by
    have h1 := hge q hq
    have : q = w.heap.size := by simpa using e
    omega
  have hhere := hN.here.but hbt (fun q hq => hfpA q (hN.inn q hq))
  obtain ⟨g0, sl, vs, fs, e0, k2, k3, k4, hf'⟩ := hhere
  cases e0
  have hvl := k4.length
  have hal : a < ts.length := (List.getElem?_eq_some_iff.1 hsa).1
  rcases k3.2 with ⟨_, h0⟩ | ⟨pg, cap, cur, rfl, hb0, hg0, hc1, hc2, hc3, hc4⟩
  · omega
  obtain ⟨v', f, e1, e2, _⟩ := partsAt.get k4 a s hsa
  obtain ⟨ga, hvv, _⟩ := e2.own
  obtain ⟨Ta, rfl, hm⟩ := part_extent hvv
  have hc := World.ownsRow.cellAt k3 a (by omega)
  rw [e1] at hc
  refine ⟨pg, cap, Ta, ga, fun X => (hm X).1, fun X => (hm X).2, fun X hX => ⟨?_, ?_, fun d => (leaf_or_split e2 d X hX).2⟩⟩
  · rw [← hvl]
    exact (hX.cell (p := ⟨gg, 5, none⟩) (lt_of_block k2)).trans (cell_atL k2 5)
  · exact (hX.cell (p := ⟨pg, a, none⟩) (lt_of_block hg0)).trans hc

theorem setP_err (v : Value) (q k n er : Int) (w : World) (h : Calls Try.prog 72 #[v, .int .i64 q, .int .i64 k] w (NearErr er w)) (h0 : er ≠ 0) : Calls Try.prog 50 #[v, .int .i64 q, .int .i64 k, .int .i64 n] w (Ans2 er [] w) := by
  have HN : Hid (Calls Try.prog 72 #[v, .int .i64 q, .int .i64 k] w (NearErr er w)) := h
  have h0' : (er != 0) = true := by simpa using h0
  clear h h0
  go_enter Try.func50, Try.ntmps50
  go_wp2_with fail
  refine HN.out.mono ?_
  rintro e w1 ⟨rfl, hb⟩
  have HB : Hid (∀ o, Below w.heap.size w (w1.alloc o)) := fun o => below_step hb ((Below.refl _ _).alloc (Nat.le_refl _) o)
  clear hb HN
  go_wp2
  go_ret2
  exact ⟨_, rfl, World.ownsRow_nil _ _ _ _, HB.out _⟩

theorem setP_side (v : Value) (q k n : Int) (w : World) {t : Tree} {qs : List Nat} {a : Nat} (h : Calls Try.prog 72 #[v, .int .i64 q, .int .i64 k] w (NearYes k t qs a w)) (hn : sideB n = false) : Calls Try.prog 50 #[v, .int .i64 q, .int .i64 k, .int .i64 n] w (Ans2 41 [] w) := by
  have HN : Hid (Calls Try.prog 72 #[v, .int .i64 q, .int .i64 k] w fun e w' => ∃ T g gg, e = .returned (.tuple #[.iface T (.pointer (some ⟨g, 0, none⟩)), .agg #[.pointer (some ⟨gg, 0, none⟩), .int .i64 a], .int .i64 0]) ∧ Below w.heap.size w w') := h.mono fun e w' h => by
    obtain ⟨T, g, fp, st, j, gg, b', ts', f', w1, he, hA, hnd, hge, hN, hbt, hb⟩ := h
    exact ⟨T, g, gg, he, hb⟩
  have HI : Hid (∀ W, Calls Try.prog 43 #[.int .i64 n] W fun e w' => e = .returned (.bool false) ∧ W = w') := fun W => hn ▸ isSide_any n W
  clear h hn
  go_enter Try.func50, Try.ntmps50
  go_wp2_with fail
  refine HN.out.mono ?_
  rintro e w1 ⟨T, g, gg, rfl, hb⟩
  have HB : Hid (∀ o, Below w.heap.size w (w1.alloc o)) := fun o => below_step hb ((Below.refl _ _).alloc (Nat.le_refl _) o)
  clear hb HN
  go_wp2_with fail
  refine (HI.out _).mono ?_
  rintro e w2 ⟨rfl, rfl⟩
  go_wp2
  go_ret2
  exact ⟨_, rfl, World.ownsRow_nil _ _ _ _, HB.out _⟩

set_option maxHeartbeats 2000000 in
theorem setP_ok0 (v : Value) (q k n : Int) (w : World) {t : Tree} {qs : List Nat} {a : Nat} {b : Box} {ts rs : List Tree} {c : Nat} {got : Int} {s : Tree} (h : Calls Try.prog 72 #[v, .int .i64 q, .int .i64 k] w (NearYes k t qs a w)) (hs : t.sound = true) (hk : t.kinds) (hz : t.size ≤ 200) (hsub : t.subAt qs = some (.split b k ts)) (hsa : ts[a]? = some s) (hn : 1 ≤ n ∧ n ≤ 1000) (E : Int) (hE : s.box.ext k = E) (hEb : 1 ≤ E ∧ E ≤ 1000) (hP : PushT k b ts a (n - E) rs c got) (hca : c = a) : Calls Try.prog 50 #[v, .int .i64 q, .int .i64 k, .int .i64 n] w (Ans2 0 (laidL (t.putAt qs (.split b k rs))) w) := by
  have HN : Hid (Calls Try.prog 72 #[v, .int .i64 q, .int .i64 k] w fun e w' => ∃ T g gg pg cap Ta ga, e = .returned (.tuple #[.iface T (.pointer (some ⟨g, 0, none⟩)), .agg #[.pointer (some ⟨gg, 0, none⟩), .int .i64 a], .int .i64 0]) ∧ (∀ X, (method 279 Ta (.pointer (some ⟨ga, 0, none⟩)) "mullion/layout.extent").run Try.prog X = .ok (27, .pointer (some ⟨ga, 0, none⟩)) X) ∧ (∀ X, (nilAhead 279 Ta (.pointer (some ⟨ga, 0, none⟩)) "mullion/layout.extent").run Try.prog X = .ok (some false) X) ∧ ∀ X, Below w'.heap.size w' X → X.cell? ⟨gg, 5, none⟩ = some (.slice (some ⟨pg, 0, none⟩) ts.length cap) ∧ X.cell? ⟨pg, a, none⟩ = some (.iface Ta (.pointer (some ⟨ga, 0, none⟩))) ∧ (Calls Try.prog 27 #[.pointer (some ⟨ga, 0, none⟩), .int .i64 k] X fun e w2 => e = .returned (.int .i64 E) ∧ X = w2) ∧ Calls Try.prog 73 #[.agg #[.pointer (some ⟨gg, 0, none⟩), .int .i64 a], .int .i64 (n - E)] X fun e w3 => (∃ mv, e = .returned (.int .i64 mv)) ∧ Calls Try.prog 31 #[.iface T (.pointer (some ⟨g, 0, none⟩))] w3 fun e w4 => ∃ u, e = .returned u ∧ CeOwns w4 w.heap.size u (laidL (t.putAt qs (.split b k rs))) ∧ Below w.heap.size w w4) := h.mono fun e w' h => by
    obtain ⟨T, g, fp, st, j, gg, b', ts', f', w1, he, hA, hnd, hge, hN, hbt, hb⟩ := h
    have hs' := hN.sub
    rw [hsub] at hs'
    cases hs'
    obtain ⟨pg, cap, Ta, ga, m1, m2, m3⟩ := near_part hge hN hbt hsa
    refine ⟨T, g, gg, pg, cap, Ta, ga, he, m1, m2, fun X hX => ⟨(m3 X hX).1, (m3 X hX).2.1, hE ▸ (m3 X hX).2.2 k, ?_⟩⟩
    exact (push_then hA hnd hge hN hbt hb hs hk hz hP (by omega) X hX).mono fun e w3 h => ⟨⟨_, h.1⟩, h.2⟩
  have hal : a < ts.length := (List.getElem?_eq_some_iff.1 hsa).1
  have h2 := hP.two
  have h9 := hP.max_
  have hcm := hP.mid
  obtain ⟨L, hL⟩ : ∃ L, ts.length = L := ⟨_, rfl⟩
  obtain ⟨LT, hLT⟩ : ∃ m, laidL (t.putAt qs (.split b k rs)) = m := ⟨_, rfl⟩
  rw [hL, hLT] at HN
  rw [hL] at hal h2 h9 hcm
  rw [hLT]
  have HI : Hid (∀ W, Calls Try.prog 43 #[.int .i64 n] W fun e w' => e = .returned (.bool true) ∧ W = w') := fun W => by
    have := isSide_any n W
    rw [show sideB n = true by simp [sideB, hn.1, hn.2]] at this
    exact this
  have hBd : ∀ gg pg cap X, X.cell? ⟨gg, 5, none⟩ = some (.slice (some ⟨pg, 0, none⟩) L cap) → Calls Try.prog 74 #[.agg #[.pointer (some ⟨gg, 0, none⟩), .int .i64 a]] X fun e w' => e = .returned (.int .i64 c) ∧ Below X.heap.size X w' := fun gg pg cap X h5 => by
    have h := border_any gg pg L cap a X h5 h2 (by omega) hal
    rw [← hcm] at h
    exact h
  have HBd : Hid (∀ gg pg cap X, X.cell? ⟨gg, 5, none⟩ = some (.slice (some ⟨pg, 0, none⟩) L cap) → Calls Try.prog 74 #[.agg #[.pointer (some ⟨gg, 0, none⟩), .int .i64 a]] X fun e w' => e = .returned (.int .i64 c) ∧ Below X.heap.size X w') := hBd
  have hw1 : IntKind.i64.wrap (n - E) = n - E := by rw [IntKind.wrap_i64]; omega

  have hac : ((a : Int) != (c : Int)) = false := by
    have : (a : Int) = (c : Int) := by omega
    simpa using this
  clear h hs hk hz hsub hsa hn hE hEb hP hca hL hLT h2 h9 hcm hBd
  go_enter Try.func50, Try.ntmps50
  go_wp2_with fail
  refine HN.out.mono ?_
  rintro e w1 ⟨T, g, gg, pg, cap, Ta, ga, rfl, m1, m2, hX⟩
  obtain ⟨Z, hZ⟩ : ∃ Z, w1.alloc (.cells #[.pointer (some ⟨gg, 0, none⟩), .int .i64 a] 98) = Z := ⟨_, rfl⟩
  have hbZ : Below w1.heap.size w1 Z := by rw [← hZ]; exact (Below.refl _ _).alloc (Nat.le_refl _) _
  have hM : Z.heap[w1.heap.size]? = some (.cells #[.pointer (some ⟨gg, 0, none⟩), .int .i64 a] 98 (0, 0)) := by rw [← hZ]; exact heap_alloc_new _ _
  have HC : Hid (∀ X, Below Z.heap.size Z X → X.cell? ⟨w1.heap.size, 0, none⟩ = some (.pointer (some ⟨gg, 0, none⟩)) ∧ X.cell? ⟨w1.heap.size, 1, none⟩ = some (.int .i64 a) ∧ X.cell? ⟨gg, 5, none⟩ = some (.slice (some ⟨pg, 0, none⟩) L cap) ∧ X.cell? ⟨pg, a, none⟩ = some (.iface Ta (.pointer (some ⟨ga, 0, none⟩)))) := fun X hB => by
    have h := (hB.block _ (lt_of_block hM)).trans hM
    have h2 := hX X (below_step hbZ hB)
    exact ⟨cell_atL h 0, cell_atL h 1, h2.1, h2.2.1⟩
  have HEx : Hid (∀ X, Below Z.heap.size Z X → Calls Try.prog 27 #[.pointer (some ⟨ga, 0, none⟩), .int .i64 k] X fun e w' => e = .returned (.int .i64 E) ∧ Below Z.heap.size Z w') := fun X hB => (hX X (below_step hbZ hB)).2.2.1.mono fun e w' h => ⟨h.1, h.2 ▸ hB⟩
  have HBo : Hid (∀ X, Below Z.heap.size Z X → Calls Try.prog 74 #[.agg #[.pointer (some ⟨gg, 0, none⟩), .int .i64 a]] X fun e w' => e = .returned (.int .i64 c) ∧ Below Z.heap.size Z w') := fun X hB => (HBd.out gg pg cap X (HC.out X hB).2.2.1).mono fun e w' h => ⟨h.1, below_step hB h.2⟩
  have HPu : Hid (∀ X, Below Z.heap.size Z X → Calls Try.prog 73 #[.agg #[.pointer (some ⟨gg, 0, none⟩), .int .i64 a], .int .i64 (n - E)] X fun e w3 => (∃ mv, e = .returned (.int .i64 mv)) ∧ Calls Try.prog 31 #[.iface T (.pointer (some ⟨g, 0, none⟩))] w3 fun e w4 => ∃ u, e = .returned u ∧ CeOwns w4 w.heap.size u LT ∧ Below w.heap.size w w4) := fun X hB => (hX X (below_step hbZ hB)).2.2.2
  have HZ : Hid (w1.alloc (.cells #[.pointer (some ⟨gg, 0, none⟩), .int .i64 a] 98) = Z) := hZ
  clear hX hbZ hM hZ HN HBd
  go_upto_region 2 with fail
  rw [HZ.out]
  go_wp2_with fail
  refine (HI.out _).mono ?_
  rintro e w2 ⟨rfl, rfl⟩
  go_wp2_with fail
  refine wp_region_qw (fun X => Below Z.heap.size Z X) (by kernel_rfl) (by kernel_rfl) (Below.refl _ _).drew ?_
  repeat (
    refine qw_take (v := ?_) (by rfl) (fun X hX => ?_) ?_
    rotate_left
    · obtain ⟨c0, c1, c5, cc⟩ := HC.out X hX
      go_simp
      all_goals first | with_reducible rfl | with_reducible exact HEx.out X hX
    intro K hK
    go_simp
    refine hK.out _ ?_
    clear hK K)
  refine qw_nil ?_
  intro w4 hB4
  go_wp2_with fail
  refine wp_region_qw (fun X => Below Z.heap.size Z X) (by kernel_rfl) (by kernel_rfl) hB4.drew ?_
  repeat (
    refine qw_take (v := ?_) (by rfl) (fun X hX => ?_) ?_
    rotate_left
    · obtain ⟨c0, c1, c5, cc⟩ := HC.out X hX
      go_simp
      all_goals first | with_reducible rfl | with_reducible exact HBo.out X hX
    intro K hK
    go_simp
    refine hK.out _ ?_
    clear hK K)
  refine qw_nil ?_
  intro w5 hB5
  obtain ⟨c0, c1, c5, cc⟩ := HC.out w5 hB5
  clear hB4
  have HB5 : Hid (Below Z.heap.size Z w5) := hB5
  clear hB5
  go_wp2_with fail
  refine (HPu.out w5 HB5.out).mono ?_
  rintro e w6 ⟨⟨mv, rfl⟩, hl⟩
  have HL2 : Hid (Calls Try.prog 31 #[.iface T (.pointer (some ⟨g, 0, none⟩))] w6 fun e w4 => ∃ u, e = .returned u ∧ CeOwns w4 w.heap.size u LT ∧ Below w.heap.size w w4) := hl
  clear hl HPu c0 c1 c5 cc
  go_wp2_with fail
  refine HL2.out.mono ?_
  rintro e w7 ⟨u, rfl, hu, hb7⟩
  have HU : Hid (CeOwns w7 w.heap.size u LT ∧ Below w.heap.size w w7) := ⟨hu, hb7⟩
  clear hu hb7 HL2
  go_wp2
  go_ret2
  exact ⟨u, rfl, HU.out.1, HU.out.2⟩

set_option maxHeartbeats 2000000 in
theorem setP_ok1 (v : Value) (q k n : Int) (w : World) {t : Tree} {qs : List Nat} {a : Nat} {b : Box} {ts rs : List Tree} {c : Nat} {got : Int} {s : Tree} (h : Calls Try.prog 72 #[v, .int .i64 q, .int .i64 k] w (NearYes k t qs a w)) (hs : t.sound = true) (hk : t.kinds) (hz : t.size ≤ 200) (hsub : t.subAt qs = some (.split b k ts)) (hsa : ts[a]? = some s) (hn : 1 ≤ n ∧ n ≤ 1000) (E : Int) (hE : s.box.ext k = E) (hEb : 1 ≤ E ∧ E ≤ 1000) (hP : PushT k b ts a (-(n - E)) rs c got) (hca : c ≠ a) : Calls Try.prog 50 #[v, .int .i64 q, .int .i64 k, .int .i64 n] w (Ans2 0 (laidL (t.putAt qs (.split b k rs))) w) := by
  have HN : Hid (Calls Try.prog 72 #[v, .int .i64 q, .int .i64 k] w fun e w' => ∃ T g gg pg cap Ta ga, e = .returned (.tuple #[.iface T (.pointer (some ⟨g, 0, none⟩)), .agg #[.pointer (some ⟨gg, 0, none⟩), .int .i64 a], .int .i64 0]) ∧ (∀ X, (method 279 Ta (.pointer (some ⟨ga, 0, none⟩)) "mullion/layout.extent").run Try.prog X = .ok (27, .pointer (some ⟨ga, 0, none⟩)) X) ∧ (∀ X, (nilAhead 279 Ta (.pointer (some ⟨ga, 0, none⟩)) "mullion/layout.extent").run Try.prog X = .ok (some false) X) ∧ ∀ X, Below w'.heap.size w' X → X.cell? ⟨gg, 5, none⟩ = some (.slice (some ⟨pg, 0, none⟩) ts.length cap) ∧ X.cell? ⟨pg, a, none⟩ = some (.iface Ta (.pointer (some ⟨ga, 0, none⟩))) ∧ (Calls Try.prog 27 #[.pointer (some ⟨ga, 0, none⟩), .int .i64 k] X fun e w2 => e = .returned (.int .i64 E) ∧ X = w2) ∧ Calls Try.prog 73 #[.agg #[.pointer (some ⟨gg, 0, none⟩), .int .i64 a], .int .i64 (-(n - E))] X fun e w3 => (∃ mv, e = .returned (.int .i64 mv)) ∧ Calls Try.prog 31 #[.iface T (.pointer (some ⟨g, 0, none⟩))] w3 fun e w4 => ∃ u, e = .returned u ∧ CeOwns w4 w.heap.size u (laidL (t.putAt qs (.split b k rs))) ∧ Below w.heap.size w w4) := h.mono fun e w' h => by
    obtain ⟨T, g, fp, st, j, gg, b', ts', f', w1, he, hA, hnd, hge, hN, hbt, hb⟩ := h
    have hs' := hN.sub
    rw [hsub] at hs'
    cases hs'
    obtain ⟨pg, cap, Ta, ga, m1, m2, m3⟩ := near_part hge hN hbt hsa
    refine ⟨T, g, gg, pg, cap, Ta, ga, he, m1, m2, fun X hX => ⟨(m3 X hX).1, (m3 X hX).2.1, hE ▸ (m3 X hX).2.2 k, ?_⟩⟩
    exact (push_then hA hnd hge hN hbt hb hs hk hz hP (by omega) X hX).mono fun e w3 h => ⟨⟨_, h.1⟩, h.2⟩
  have hal : a < ts.length := (List.getElem?_eq_some_iff.1 hsa).1
  have h2 := hP.two
  have h9 := hP.max_
  have hcm := hP.mid
  obtain ⟨L, hL⟩ : ∃ L, ts.length = L := ⟨_, rfl⟩
  obtain ⟨LT, hLT⟩ : ∃ m, laidL (t.putAt qs (.split b k rs)) = m := ⟨_, rfl⟩
  rw [hL, hLT] at HN
  rw [hL] at hal h2 h9 hcm
  rw [hLT]
  have HI : Hid (∀ W, Calls Try.prog 43 #[.int .i64 n] W fun e w' => e = .returned (.bool true) ∧ W = w') := fun W => by
    have := isSide_any n W
    rw [show sideB n = true by simp [sideB, hn.1, hn.2]] at this
    exact this
  have hBd : ∀ gg pg cap X, X.cell? ⟨gg, 5, none⟩ = some (.slice (some ⟨pg, 0, none⟩) L cap) → Calls Try.prog 74 #[.agg #[.pointer (some ⟨gg, 0, none⟩), .int .i64 a]] X fun e w' => e = .returned (.int .i64 c) ∧ Below X.heap.size X w' := fun gg pg cap X h5 => by
    have h := border_any gg pg L cap a X h5 h2 (by omega) hal
    rw [← hcm] at h
    exact h
  have HBd : Hid (∀ gg pg cap X, X.cell? ⟨gg, 5, none⟩ = some (.slice (some ⟨pg, 0, none⟩) L cap) → Calls Try.prog 74 #[.agg #[.pointer (some ⟨gg, 0, none⟩), .int .i64 a]] X fun e w' => e = .returned (.int .i64 c) ∧ Below X.heap.size X w') := hBd
  have hw1 : IntKind.i64.wrap (n - E) = n - E := by rw [IntKind.wrap_i64]; omega
  have hw2 : IntKind.i64.wrap (-(n - E)) = -(n - E) := by rw [IntKind.wrap_i64]; omega
  have hac : ((a : Int) != (c : Int)) = true := by
    have : (a : Int) ≠ (c : Int) := by omega
    simpa using this
  clear h hs hk hz hsub hsa hn hE hEb hP hca hL hLT h2 h9 hcm hBd
  go_enter Try.func50, Try.ntmps50
  go_wp2_with fail
  refine HN.out.mono ?_
  rintro e w1 ⟨T, g, gg, pg, cap, Ta, ga, rfl, m1, m2, hX⟩
  obtain ⟨Z, hZ⟩ : ∃ Z, w1.alloc (.cells #[.pointer (some ⟨gg, 0, none⟩), .int .i64 a] 98) = Z := ⟨_, rfl⟩
  have hbZ : Below w1.heap.size w1 Z := by rw [← hZ]; exact (Below.refl _ _).alloc (Nat.le_refl _) _
  have hM : Z.heap[w1.heap.size]? = some (.cells #[.pointer (some ⟨gg, 0, none⟩), .int .i64 a] 98 (0, 0)) := by rw [← hZ]; exact heap_alloc_new _ _
  have HC : Hid (∀ X, Below Z.heap.size Z X → X.cell? ⟨w1.heap.size, 0, none⟩ = some (.pointer (some ⟨gg, 0, none⟩)) ∧ X.cell? ⟨w1.heap.size, 1, none⟩ = some (.int .i64 a) ∧ X.cell? ⟨gg, 5, none⟩ = some (.slice (some ⟨pg, 0, none⟩) L cap) ∧ X.cell? ⟨pg, a, none⟩ = some (.iface Ta (.pointer (some ⟨ga, 0, none⟩)))) := fun X hB => by
    have h := (hB.block _ (lt_of_block hM)).trans hM
    have h2 := hX X (below_step hbZ hB)
    exact ⟨cell_atL h 0, cell_atL h 1, h2.1, h2.2.1⟩
  have HEx : Hid (∀ X, Below Z.heap.size Z X → Calls Try.prog 27 #[.pointer (some ⟨ga, 0, none⟩), .int .i64 k] X fun e w' => e = .returned (.int .i64 E) ∧ Below Z.heap.size Z w') := fun X hB => (hX X (below_step hbZ hB)).2.2.1.mono fun e w' h => ⟨h.1, h.2 ▸ hB⟩
  have HBo : Hid (∀ X, Below Z.heap.size Z X → Calls Try.prog 74 #[.agg #[.pointer (some ⟨gg, 0, none⟩), .int .i64 a]] X fun e w' => e = .returned (.int .i64 c) ∧ Below Z.heap.size Z w') := fun X hB => (HBd.out gg pg cap X (HC.out X hB).2.2.1).mono fun e w' h => ⟨h.1, below_step hB h.2⟩
  have HPu : Hid (∀ X, Below Z.heap.size Z X → Calls Try.prog 73 #[.agg #[.pointer (some ⟨gg, 0, none⟩), .int .i64 a], .int .i64 (-(n - E))] X fun e w3 => (∃ mv, e = .returned (.int .i64 mv)) ∧ Calls Try.prog 31 #[.iface T (.pointer (some ⟨g, 0, none⟩))] w3 fun e w4 => ∃ u, e = .returned u ∧ CeOwns w4 w.heap.size u LT ∧ Below w.heap.size w w4) := fun X hB => (hX X (below_step hbZ hB)).2.2.2
  have HZ : Hid (w1.alloc (.cells #[.pointer (some ⟨gg, 0, none⟩), .int .i64 a] 98) = Z) := hZ
  clear hX hbZ hM hZ HN HBd
  go_upto_region 2 with fail
  rw [HZ.out]
  go_wp2_with fail
  refine (HI.out _).mono ?_
  rintro e w2 ⟨rfl, rfl⟩
  go_wp2_with fail
  refine wp_region_qw (fun X => Below Z.heap.size Z X) (by kernel_rfl) (by kernel_rfl) (Below.refl _ _).drew ?_
  repeat (
    refine qw_take (v := ?_) (by rfl) (fun X hX => ?_) ?_
    rotate_left
    · obtain ⟨c0, c1, c5, cc⟩ := HC.out X hX
      go_simp
      all_goals first | with_reducible rfl | with_reducible exact HEx.out X hX
    intro K hK
    go_simp
    refine hK.out _ ?_
    clear hK K)
  refine qw_nil ?_
  intro w4 hB4
  go_wp2_with fail
  refine wp_region_qw (fun X => Below Z.heap.size Z X) (by kernel_rfl) (by kernel_rfl) hB4.drew ?_
  repeat (
    refine qw_take (v := ?_) (by rfl) (fun X hX => ?_) ?_
    rotate_left
    · obtain ⟨c0, c1, c5, cc⟩ := HC.out X hX
      go_simp
      all_goals first | with_reducible rfl | with_reducible exact HBo.out X hX
    intro K hK
    go_simp
    refine hK.out _ ?_
    clear hK K)
  refine qw_nil ?_
  intro w5 hB5
  obtain ⟨c0, c1, c5, cc⟩ := HC.out w5 hB5
  clear hB4
  have HB5 : Hid (Below Z.heap.size Z w5) := hB5
  clear hB5
  go_wp2_with fail
  refine (HPu.out w5 HB5.out).mono ?_
  rintro e w6 ⟨⟨mv, rfl⟩, hl⟩
  have HL2 : Hid (Calls Try.prog 31 #[.iface T (.pointer (some ⟨g, 0, none⟩))] w6 fun e w4 => ∃ u, e = .returned u ∧ CeOwns w4 w.heap.size u LT ∧ Below w.heap.size w w4) := hl
  clear hl HPu c0 c1 c5 cc
  go_wp2_with fail
  refine HL2.out.mono ?_
  rintro e w7 ⟨u, rfl, hu, hb7⟩
  have HU : Hid (CeOwns w7 w.heap.size u LT ∧ Below w.heap.size w w7) := ⟨hu, hb7⟩
  clear hu hb7 HL2
  go_wp2
  go_ret2
  exact ⟨u, rfl, HU.out.1, HU.out.2⟩

end Go.Proofs.Ytnepemlagnnngaa
