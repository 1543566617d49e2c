/-

  Layouts: split.sound, over what its parts' methods do.
  Layouts: what a tree in memory is made of lies below the end of memory; what parts fill.
-/
import Derived.Test.YtlaelkcmeaiajaaCMe
import Derived.WalkKit
import Derived.LoopTactic
import Derived.RegionTactic
import Derived.Deep.RegionWith
import Derived.Deep.DrawnRows
import Derived.Deep.RegionHeld3
namespace Go.Proofs.Ytlaelkcmeaiajaa
open Go.RowKit
set_option linter.unusedVariables false
set_option maxRecDepth 20000

theorem below_drewN {B : Nat} {a w : World} (h : Below B a w) (n : Nat) : Below B a (w.drewN n) := ⟨h.os, h.tape, h.output, h.size, h.block⟩
/-- The sum of the parts' extents. -/
def extSum : List Tree → Int → Int
  | [], _ => 0
  | t :: ts, k => t.box.ext k + extSum ts k
theorem extAll_sum (ts : List Tree) (k : Int) : extAll ts k = extSum ts k + ((ts.length : Int) - 1) := by
  induction ts with
  | nil => rfl
  | cons t ts ih => unfold extAll extSum; rw [ih]; simp; omega
theorem extSum_take (ts : List Tree) (k : Int) (i : Nat) (t : Tree) (h : ts[i]? = some t) : extSum (ts.take (i + 1)) k = extSum (ts.take i) k + t.box.ext k := by
  induction ts generalizing i with
  | nil => simp at h
  | cons a ts ih =>
    cases i with
    | zero => simp at h; subst h; simp [extSum]
    | succ i =>
      simp only [List.getElem?_cons_succ] at h
      have := ih i h
      simp only [List.take_succ_cons, extSum] at this ⊢
      omega
theorem extSum_bound (ts : List Tree) (k : Int) (h : ∀ t ∈ ts, (1 ≤ t.box.w ∧ t.box.w ≤ 1000) ∧ (1 ≤ t.box.h ∧ t.box.h ≤ 1000)) : 0 ≤ extSum ts k ∧ extSum ts k ≤ 1000 * (ts.length : Int) := by
  induction ts with
  | nil => simp [extSum]
  | cons t ts ih =>
    have h1 := ih (fun x hx => h x (List.mem_cons_of_mem _ hx))
    have h2 := h t (by simp)
    have h3 : 1 ≤ t.box.ext k ∧ t.box.ext k ≤ 1000 := by unfold Box.ext; split <;> omega
    simp only [extSum, List.length_cons]
    omega
theorem str_str (b : Box) (k x y : Int) : (b.str k x).str k y = b.str k (x + y) := by
  unfold Box.str
  split <;> simp [Int.add_assoc]

theorem l_ahead (g : Nat) (W : World) : (nilAhead 248 48 (.pointer (some ⟨g, 0, none⟩)) "mullion/layout.extent").run Try.prog W = .ok (some false) W := by kernel_rfl
theorem s_ahead (g : Nat) (W : World) : (nilAhead 248 72 (.pointer (some ⟨g, 0, none⟩)) "mullion/layout.extent").run Try.prog W = .ok (some false) W := by kernel_rfl
theorem BoxAt.grown {W W' : World} {g r : Nat} {b : Box} (h : BoxAt W g b) (hg : W.grownBy W' (some r)) (hne : g ≠ r) : BoxAt W' g b := by
  have hb : W'.heap[g]? = W.heap[g]? := hg.block g h.lt (by simp; omega)
  have hc : ∀ o, W'.cell? ⟨g, o, none⟩ = W.cell? ⟨g, o, none⟩ := fun o => World.cell?_of_block (w := W) (a := ⟨g, o, none⟩) hb
  exact ⟨(hc 0).trans h.x, (hc 1).trans h.y, (hc 2).trans h.w, (hc 3).trans h.h, fun o ho => (World.frozen?_of_block (w := W) (a := ⟨g, o, none⟩) hb).trans (h.free o ho)⟩
theorem part_extent {v : Value} {g : Nat} (h : v = leafI g ∨ v = splitI g) : ∃ T, v = .iface T (.pointer (some ⟨g, 0, none⟩)) ∧ ∀ W, (method 248 T (.pointer (some ⟨g, 0, none⟩)) "mullion/layout.extent").run Try.prog W = .ok (35, .pointer (some ⟨g, 0, none⟩)) W ∧ (nilAhead 248 T (.pointer (some ⟨g, 0, none⟩)) "mullion/layout.extent").run Try.prog W = .ok (some false) W := by
  rcases h with rfl | rfl
  · exact ⟨_, rfl, fun W => ⟨l_extent g W, l_ahead g W⟩⟩
  · exact ⟨_, rfl, fun W => ⟨s_extent g W, s_ahead g W⟩⟩

/-- What around wants of the parts. -/
def Extents (w : World) (vs : List Value) (ts : List Tree) : Prop := ∀ (i : Nat) (t : Tree), ts[i]? = some t → ∃ (T : TypeId) (gi : Nat), vs[i]? = some (.iface T (.pointer (some ⟨gi, 0, none⟩))) ∧ (∀ W, (method 248 T (.pointer (some ⟨gi, 0, none⟩)) "mullion/layout.extent").run Try.prog W = .ok (35, .pointer (some ⟨gi, 0, none⟩)) W) ∧ (∀ W, (nilAhead 248 T (.pointer (some ⟨gi, 0, none⟩)) "mullion/layout.extent").run Try.prog W = .ok (some false) W) ∧ ∀ k X, Below w.heap.size w X → Calls Try.prog 35 #[.pointer (some ⟨gi, 0, none⟩), .int .i64 k] X fun e w' => e = .returned (.int .i64 (t.box.ext k)) ∧ X = w'
theorem extents_of {w : World} {B : Nat} {ts : List Tree} {vs : List Value} {fs : List Nat} (hP : partsAt w B ts vs fs) : Extents w vs ts := by
  intro i t ht
  obtain ⟨v0, f0, hv0, hT0, _⟩ := hP.get i t ht
  obtain ⟨g0, hgv, hb0, _⟩ := hT0.own
  obtain ⟨T, rfl, hm⟩ := part_extent hgv
  exact ⟨T, g0, hv0, fun W => (hm W).1, fun W => (hm W).2, fun k X h => box_extent g0 t.box k X (hb0.below h)⟩

set_option maxHeartbeats 2000000 in
theorem around_any (g : Nat) (b : Box) (k : Int) (hk : k = 2 ∨ k = 3) (sl : Value) (vs : List Value) (fs : List Nat) (t0 : Tree) (tr : List Tree) (B : Nat) (w : World) (hS : SplitAt w g b k sl) (hR : w.ownsRow B 45 1 sl vs.length vs) (hP : partsAt w B (t0 :: tr) vs fs) (hs : SmallT (t0 :: tr)) :
    Calls Try.prog 53 #[.pointer (some ⟨g, 0, none⟩)] w fun e w' => e = .returned (.agg #[.int .i64 0, .int .i64 0, .int .i64 (aroundB (t0 :: tr) k).w, .int .i64 (aroundB (t0 :: tr) k).h]) ∧ Below w.heap.size w w' := by
  have hvl := hP.length
  obtain ⟨pg, cap, hsl, hseen⟩ := seen_of hS hR (by intro e; rw [e] at hvl; cases hvl)
  have HX : Hid (Extents w vs (t0 :: tr)) := extents_of hP
  obtain ⟨T0, g0, hv0, hm0, _, hx0⟩ := HX.out 0 t0 rfl
  subst hsl
  obtain ⟨n, hn⟩ : ∃ n, vs.length = n := ⟨_, rfl⟩
  have hnl : (t0 :: tr).length = n := by rw [← hn, hvl]
  have hn0 : (0 : Int) < (n : Int) := by rw [← hnl]; simp
  have hn00 : 0 < n := by omega
  have hn1 : n ≤ 200 := by have := hs.1; omega
  have hnw : IntKind.i64.wrap ((n : Int) - 1) = (n : Int) - 1 := by rw [IntKind.wrap_i64]; omega
  rw [hn] at hseen
  obtain ⟨ak, hak⟩ : ∃ x, acrossK k = x := ⟨_, rfl⟩
  obtain ⟨ex, hex⟩ : ∃ x, t0.box.ext ak = x := ⟨_, rfl⟩
  have hexb : 1 ≤ ex ∧ ex ≤ 1000 := by
    have := hs.2 t0 (by simp)
    rw [← hex]
    unfold Box.ext
    split <;> omega
  have HN : Hid ((t0 :: tr).length = n) := hnl
  have HSm : Hid (SmallT (t0 :: tr)) := hs
  have HSe : Hid (∀ X, Below w.heap.size w X → Seen X g k (.slice (some ⟨pg, 0, none⟩) n cap) pg vs) := fun X h => hseen.below h
  have HAc : Hid (∀ X, Calls Try.prog 64 #[.int .i64 k] X fun e w' => e = .returned (.int .i64 ak) ∧ X = w') := fun X => hak ▸ across_any k X
  have HEx : Hid (∀ X, Below w.heap.size w X → Calls Try.prog 35 #[.pointer (some ⟨g0, 0, none⟩), .int .i64 ak] X fun e w' => e = .returned (.int .i64 ex) ∧ X = w') := fun X h => hex ▸ hx0 ak X h
  have HBn : Hid (∀ o o' m, Below w.heap.size w (((w.alloc o).alloc o').drewN m)) := fun o o' m => by
    have := ((Below.refl w.heap.size w).alloc (Nat.le_refl _) o).alloc (by simp) o'
    exact ⟨this.1, this.2, this.3, this.4, this.5⟩
  have HNb : Hid (∀ o t m, BoxAt (((w.alloc o).alloc (.cells #[.int .i64 0, .int .i64 0, .int .i64 0, .int .i64 0] t)).drewN m) (w.heap.size + 1) ⟨0, 0, 0, 0⟩) := fun o t m => by
    have := BoxAt.new (w.alloc o) t
    rw [show (w.alloc o).heap.size = w.heap.size + 1 by simp] at this
    exact ⟨this.x, this.y, this.w, this.h, this.free⟩
  have HNr : Hid (∀ t o m, BoxAt (((w.alloc (.cells #[.int .i64 0, .int .i64 0, .int .i64 0, .int .i64 0] t)).alloc o).drewN m) w.heap.size ⟨0, 0, 0, 0⟩) := fun t o m => by
    have h1 := BoxAt.new w t
    have := h1.below ((Below.refl _ _).alloc (Nat.le_refl _) o)
    exact ⟨this.x, this.y, this.w, this.h, this.free⟩
  have HSt : Hid (∀ X, BoxAt X (w.heap.size + 1) ⟨0, 0, 0, 0⟩ → Calls Try.prog 38 #[.pointer (some ⟨w.heap.size + 1, 0, none⟩), .int .i64 ak, .int .i64 ex] X fun e w' => e = .returned (.tuple #[]) ∧ BoxAt w' (w.heap.size + 1) ((⟨0, 0, 0, 0⟩ : Box).str ak ex) ∧ X.grownBy w' (some (w.heap.size + 1)) ∧ (∀ o, 4 ≤ o → w'.cell? ⟨w.heap.size + 1, o, none⟩ = X.cell? ⟨w.heap.size + 1, o, none⟩)) := fun X h => box_stretch _ _ ak ex X h (by decide) (by decide) (by omega)
  have HAE : Hid (acrossK k = ak ∧ t0.box.ext ak = ex ∧ (k = 2 ∨ k = 3)) := ⟨hak, hex, hk⟩
  have e4 : ∀ o o', ((w.alloc o).alloc o').cell? ⟨g, 4, none⟩ = some (.int .i64 k) := fun o o' => (HSe.out _ (HBn.out o o' 0)).kind
  have e5 : ∀ o o', ((w.alloc o).alloc o').cell? ⟨g, 5, none⟩ = some (.slice (some ⟨pg, 0, none⟩) n cap) := fun o o' => (HSe.out _ (HBn.out o o' 0)).parts
  have e0 : ∀ o o', ((w.alloc o).alloc o').cell? ⟨pg, 0, none⟩ = some (.iface T0 (.pointer (some ⟨g0, 0, none⟩))) := fun o o' => (HSe.out _ (HBn.out o o' 0)).row 0 _ hv0
  obtain ⟨aw, haw⟩ : ∃ x, (aroundB (t0 :: tr) k).w = x := ⟨_, rfl⟩
  obtain ⟨ah, hah⟩ : ∃ x, (aroundB (t0 :: tr) k).h = x := ⟨_, rfl⟩
  have HAW : Hid ((aroundB (t0 :: tr) k).w = aw ∧ (aroundB (t0 :: tr) k).h = ah) := ⟨haw, hah⟩
  rw [haw, hah]
  clear hn hvl hseen hR hP hak hex hS hv0 hx0 hnl hs hk haw hah
  go_enter Try.func53, Try.ntmps53
  go_wp2_with fail
  refine wp_region_quiet_last 19 _ (by rfl) (by rfl) (by kernel_rfl) (by kernel_rfl) (by kernel_rfl) ?_
  simp only [List.take_succ_cons, List.take_zero]
  repeat (quiet_step (first | (go_at_call 64; exact Calls.quiet_of_same ((HAc.out _).mono fun e w' h => ⟨h.1, h.2.symm⟩)) | (go_at_call 35; exact Calls.quiet_of_same ((HEx.out _ (HBn.out _ _ _)).mono fun e w' h => ⟨h.1, h.2.symm⟩))))
  refine wpQuiet_nil ?_
  intro m K hK
  go_simp
  go_at_call 38
  refine (HSt.out _ (HNb.out _ _ _)).mono ?_
  rintro e w1 ⟨rfl, hq1, hg1, hq4⟩
  refine hK _ _ ?_
  clear hK
  clear K
  have HBw : Hid (Below w.heap.size w w1) := below_grown (HBn.out _ _ m) hg1 (by omega)
  have HR1 : Hid (BoxAt w1 w.heap.size ⟨0, 0, 0, 0⟩) := (HNr.out _ _ m).grown hg1 (by omega)
  have HS1 : Hid (Seen w1 g k (.slice (some ⟨pg, 0, none⟩) n cap) pg vs) := HSe.out _ HBw.out
  have HSt2 : Hid (∀ m, Calls Try.prog 38 #[.pointer (some ⟨w.heap.size + 1, 0, none⟩), .int .i64 k, .int .i64 ((n : Int) - 1)] (w1.drewN m) fun e w' => e = .returned (.tuple #[]) ∧ BoxAt w' (w.heap.size + 1) (((⟨0, 0, 0, 0⟩ : Box).str ak ex).str k ((n : Int) - 1)) ∧ (w1.drewN m).grownBy w' (some (w.heap.size + 1)) ∧ (∀ o, 4 ≤ o → w'.cell? ⟨w.heap.size + 1, o, none⟩ = (w1.drewN m).cell? ⟨w.heap.size + 1, o, none⟩)) := fun m => box_stretch _ _ k ((n : Int) - 1) (w1.drewN m) ⟨hq1.x, hq1.y, hq1.w, hq1.h, hq1.free⟩ (by unfold Box.str; split <;> constructor <;> simp <;> omega) (by unfold Box.str; split <;> constructor <;> simp <;> omega) (by omega)
  have HBm : Hid (∀ m, Below w.heap.size w (w1.drewN m)) := fun m => below_drewN HBw.out m
  have c4 := HS1.out.kind
  have c5 := HS1.out.parts
  clear hg1 hq1 hq4 e4 e5 e0 HSt HEx HAc HNb HBn hm0
  go_wp2_with fail
  refine wp_region_quiet_last 10 _ (by rfl) (by rfl) (by kernel_rfl) (by kernel_rfl) (by kernel_rfl) ?_
  simp only [List.take_succ_cons, List.take_zero]
  repeat (quiet_step (fail))
  refine wpQuiet_nil ?_
  intro m2 K hK
  go_simp
  go_at_call 38
  refine (HSt2.out m2).mono ?_
  rintro e w2 ⟨rfl, hq1, hg1, hq4⟩
  refine hK _ _ ?_
  clear hK
  clear K
  have HBw2 : Hid (Below w.heap.size w w2) := below_grown (HBm.out m2) hg1 (by omega)
  have HR2 : Hid (BoxAt w2 w.heap.size ⟨0, 0, 0, 0⟩) := BoxAt.grown (W := w1.drewN m2) ⟨HR1.out.x, HR1.out.y, HR1.out.w, HR1.out.h, HR1.out.free⟩ hg1 (by omega)
  have HS2 : Hid (Seen w2 g k (.slice (some ⟨pg, 0, none⟩) n cap) pg vs) := HSe.out _ HBw2.out
  have HQ2 : Hid (BoxAt w2 (w.heap.size + 1) (((⟨0, 0, 0, 0⟩ : Box).str ak ex).str k ((n : Int) - 1))) := hq1
  have d4 := HS2.out.kind
  have d5 := HS2.out.parts
  clear hg1 hq1 hq4 c4 c5 HSt2 HBm HS1 HBw
  have hB0 : ∀ x : Int, 0 ≤ x → x ≤ 200000 → ((((⟨0, 0, 0, 0⟩ : Box).str ak ex).str k ((n : Int) - 1)).str k x).x = 0 ∧ ((((⟨0, 0, 0, 0⟩ : Box).str ak ex).str k ((n : Int) - 1)).str k x).y = 0 ∧ (0 ≤ ((((⟨0, 0, 0, 0⟩ : Box).str ak ex).str k ((n : Int) - 1)).str k x).w ∧ ((((⟨0, 0, 0, 0⟩ : Box).str ak ex).str k ((n : Int) - 1)).str k x).w ≤ 300000) ∧ (0 ≤ ((((⟨0, 0, 0, 0⟩ : Box).str ak ex).str k ((n : Int) - 1)).str k x).h ∧ ((((⟨0, 0, 0, 0⟩ : Box).str ak ex).str k ((n : Int) - 1)).str k x).h ≤ 300000) := fun x h0 h1 => by
    unfold Box.str
    repeat' split
    all_goals simp
    all_goals omega
  have hE0 : (((⟨0, 0, 0, 0⟩ : Box).str ak ex).str k ((n : Int) - 1)).str k (extSum (t0 :: tr) k) = aroundB (t0 :: tr) k := by
    have h1 := extAll_sum (t0 :: tr) k
    rw [HN.out] at h1
    obtain ⟨h2, h3, h4⟩ := HAE.out
    rcases h4 with rfl | rfl
    · have h5 : ak = 3 := by rw [← h2]; rfl
      subst h5
      have h6 : aroundB (t0 :: tr) 2 = ⟨0, 0, extAll (t0 :: tr) 2, t0.box.h⟩ := rfl
      rw [h6, h1, ← h3]
      simp [Box.str, Box.ext]
      omega
    · have h5 : ak = 2 := by rw [← h2]; rfl
      subst h5
      have h6 : aroundB (t0 :: tr) 3 = ⟨0, 0, t0.box.w, extAll (t0 :: tr) 3⟩ := rfl
      rw [h6, h1, ← h3]
      simp [Box.str, Box.ext]
      omega
  obtain ⟨B0, hBB⟩ : ∃ x, ((⟨0, 0, 0, 0⟩ : Box).str ak ex).str k ((n : Int) - 1) = x := ⟨_, rfl⟩
  rw [hBB] at hB0 hE0 HQ2
  have HB0 : Hid (∀ x : Int, 0 ≤ x → x ≤ 200000 → (B0.str k x).x = 0 ∧ (B0.str k x).y = 0 ∧ (0 ≤ (B0.str k x).w ∧ (B0.str k x).w ≤ 300000) ∧ (0 ≤ (B0.str k x).h ∧ (B0.str k x).h ≤ 300000)) := hB0
  have HE0 : Hid (B0.str k (extSum (t0 :: tr) k) = aroundB (t0 :: tr) k) := hE0
  clear hB0 hE0 hBB
  go_wp2_with fail
  go_loopw [42] (fun v wr => ∃ i : Nat, i ≤ n ∧ v = .int .i64 i ∧ Hid (BoxAt wr (w.heap.size + 1) (B0.str k (extSum ((t0 :: tr).take i) k))) ∧ Hid (Below w.heap.size w wr) ∧ Hid (BoxAt wr w.heap.size ⟨0, 0, 0, 0⟩)) (fun v _ => n - (intOf v).toNat)
  case atStart => exact ⟨0, Nat.zero_le _, rfl, (by
      show BoxAt _ _ _
      have : B0.str k (extSum ((t0 :: tr).take 0) k) = B0 := by unfold Box.str; split <;> simp [extSum]
      rw [this]
      exact HQ2.out), HBw2, HR2⟩
  case round =>
    obtain ⟨i, hi, rfl, HQ, HBr, HRr⟩ := hrel
    have HSr : Hid (Seen wr g k (.slice (some ⟨pg, 0, none⟩) n cap) pg vs) := HSe.out _ HBr.out
    have hbd := extSum_bound ((t0 :: tr).take i) k (fun t ht => HSm.out.2 t (List.mem_of_mem_take ht))
    have hln : (((t0 :: tr).take i).length : Int) ≤ 200 := by rw [List.length_take]; omega
    have hbx := HB0.out (extSum ((t0 :: tr).take i) k) hbd.1 (by omega)
    have r4 := HSr.out.kind
    have r5 := HSr.out.parts
    clear d4 d5
    by_cases hlt : i < n
    · obtain ⟨t, ht⟩ : ∃ t, (t0 :: tr)[i]? = some t := ⟨_, List.getElem?_eq_getElem (by rw [HN.out]; exact hlt)⟩
      obtain ⟨T, gi, hvi, hmi, hni, hxi⟩ := HX.out i t ht
      have ri := HSr.out.row i _ hvi
      have HT := extSum_take (t0 :: tr) k i t ht
      have hte : 1 ≤ t.box.ext k ∧ t.box.ext k ≤ 1000 := by
        have := HSm.out.2 t (List.mem_of_getElem? ht)
        unfold Box.ext
        split <;> omega
      obtain ⟨ei, hei⟩ : ∃ x, t.box.ext k = x := ⟨_, rfl⟩
      rw [hei] at hte HT
      have HXi : Hid (∀ X, Below w.heap.size w X → Calls Try.prog 35 #[.pointer (some ⟨gi, 0, none⟩), .int .i64 k] X fun e w' => e = .returned (.int .i64 ei) ∧ X = w') := fun X h => hei ▸ hxi k X h
      obtain ⟨sm, hsm⟩ : ∃ x, extSum ((t0 :: tr).take i) k = x := ⟨_, rfl⟩
      rw [hsm] at HQ hbx HT hbd
      have HSt3 : Hid (∀ m, Calls Try.prog 38 #[.pointer (some ⟨w.heap.size + 1, 0, none⟩), .int .i64 k, .int .i64 ei] (wr.drewN m) fun e w' => e = .returned (.tuple #[]) ∧ BoxAt w' (w.heap.size + 1) ((B0.str k sm).str k ei) ∧ (wr.drewN m).grownBy w' (some (w.heap.size + 1)) ∧ (∀ o, 4 ≤ o → w'.cell? ⟨w.heap.size + 1, o, none⟩ = (wr.drewN m).cell? ⟨w.heap.size + 1, o, none⟩)) := fun m => box_stretch _ _ k ei (wr.drewN m) ⟨HQ.out.x, HQ.out.y, HQ.out.w, HQ.out.h, HQ.out.free⟩ (by omega) (by omega) (by omega)
      have HBm : Hid (∀ m, Below w.heap.size w (wr.drewN m)) := fun m => below_drewN HBr.out m
      have HT2 : Hid (extSum ((t0 :: tr).take (i + 1)) k = sm + ei) := HT
      clear hsm hei hxi ht hvi hbd hln hbx HQ HT
      go_wp2_with fail
      refine wp_region_quiet_last 13 _ (by rfl) (by rfl) (by kernel_rfl) (by kernel_rfl) (by kernel_rfl) ?_
      simp only [List.take_succ_cons, List.take_zero]
      repeat (quiet_step ((go_at_call 35; exact Calls.quiet_of_same ((HXi.out _ (HBm.out _)).mono fun e w' h => ⟨h.1, h.2.symm⟩))))
      refine wpQuiet_nil ?_
      intro m3 K hK
      go_simp
      go_at_call 38
      refine (HSt3.out m3).mono ?_
      rintro e w3 ⟨rfl, hq1, hg1, hq4⟩
      refine hK _ _ ?_
      clear hK
      clear K
      have HB3 : Hid (Below w.heap.size w w3) := below_grown (HBm.out m3) hg1 (by omega)
      have HR3 : Hid (BoxAt w3 w.heap.size ⟨0, 0, 0, 0⟩) := BoxAt.grown (W := wr.drewN m3) ⟨HRr.out.x, HRr.out.y, HRr.out.w, HRr.out.h, HRr.out.free⟩ hg1 (by omega)
      have HQ3 : Hid (BoxAt w3 (w.heap.size + 1) (B0.str k (extSum ((t0 :: tr).take (i + 1)) k))) := by
        show BoxAt _ _ _
        rw [HT2.out, ← str_str]
        exact hq1
      clear hq1 hg1 hq4 HSt3 HBm HXi
      go_wp2
      go_roundw
      case rel => exact ⟨i + 1, by omega, by go_num, HQ3, HB3, HR3⟩
      case measure => simp [intOf]; omega
    · have hin : i = n := by omega
      have HQe : Hid (BoxAt wr (w.heap.size + 1) (aroundB (t0 :: tr) k)) := by
        show BoxAt _ _ _
        have h := HQ.out
        rw [List.take_of_length_le (by rw [HN.out]; omega), HE0.out] at h
        exact h
      have hxy : (aroundB (t0 :: tr) k).x = 0 ∧ (aroundB (t0 :: tr) k).y = 0 := by
        rcases HAE.out.2.2 with rfl | rfl
        · exact ⟨rfl, rfl⟩
        · exact ⟨rfl, rfl⟩
      have q0 := HQe.out.x
      have q1 := HQe.out.y
      have q2 := HQe.out.w
      have q3 := HQe.out.h
      rw [hxy.1] at q0
      rw [hxy.2] at q1
      clear hxy hbd hln hbx HQ hin
      rw [HAW.out.1] at q2
      rw [HAW.out.2] at q3
      have s0 := HRr.out.x
      have s1 := HRr.out.y
      have s2 := HRr.out.w
      have s3 := HRr.out.h
      have f0 := HRr.out.free 0 (by decide)
      have f1 := HRr.out.free 1 (by decide)
      have f2 := HRr.out.free 2 (by decide)
      have f3 := HRr.out.free 3 (by decide)
      go_wp2
      refine bodyPost_ret (v := .agg #[.int .i64 0, .int .i64 0, .int .i64 aw, .int .i64 ah]) (by simp [results, Try.results53, go_sem, s0, s1, s2, s3]) rfl ?_
      exact ⟨rfl, below_grown (below_grown (below_grown (below_grown HBr.out (grownBy_set _ _ _ _) (Nat.le_refl _)) (grownBy_set _ _ _ _) (Nat.le_refl _)) (grownBy_set _ _ _ _) (Nat.le_refl _)) (grownBy_set _ _ _ _) (Nat.le_refl _)⟩

end Go.Proofs.Ytlaelkcmeaiajaa

namespace Go.Proofs.Ytlaelkcmeaiajaa
open Go.RowKit
set_option linter.unusedVariables false
set_option maxRecDepth 20000

/-- What sound wants of a part. -/
structure PartS (w : World) (v : Value) (t : Tree) (T : TypeId) (gi : Nat) (Fs Fa : FuncId) : Prop where
  val : v = .iface T (.pointer (some ⟨gi, 0, none⟩))
  mS : ∀ W, (method 248 T (.pointer (some ⟨gi, 0, none⟩)) "mullion/layout.sound").run Try.prog W = .ok (Fs, .pointer (some ⟨gi, 0, none⟩)) W
  mA : ∀ W, (method 248 T (.pointer (some ⟨gi, 0, none⟩)) "mullion/layout.as").run Try.prog W = .ok (Fa, .pointer (some ⟨gi, 0, none⟩)) W
  mE : ∀ W, (method 248 T (.pointer (some ⟨gi, 0, none⟩)) "mullion/layout.extent").run Try.prog W = .ok (35, .pointer (some ⟨gi, 0, none⟩)) W
  fS : ∀ a W, (callFunc Fs #[a]).run Try.prog W = .ok (.enter Fs #[a]) W
  fA : ∀ a c W, (callFunc Fa #[a, c]).run Try.prog W = .ok (.enter Fa #[a, c]) W
  nA : ∀ W, (nilAhead 248 T (.pointer (some ⟨gi, 0, none⟩)) "mullion/layout.as").run Try.prog W = .ok (some false) W
  nE : ∀ W, (nilAhead 248 T (.pointer (some ⟨gi, 0, none⟩)) "mullion/layout.extent").run Try.prog W = .ok (some false) W
  cS : ∀ X, Below w.heap.size w X → Calls Try.prog Fs #[.pointer (some ⟨gi, 0, none⟩)] X fun e w' => e = .returned (.bool t.sound) ∧ Below X.heap.size X w'
  cA : ∀ k X, Below w.heap.size w X → Calls Try.prog Fa #[.pointer (some ⟨gi, 0, none⟩), .int .i64 k] X fun e w' => e = .returned (.pointer (if t.kindIs k = true then some ⟨gi, 0, none⟩ else none)) ∧ X = w'
  cE : ∀ k X, Below w.heap.size w X → Calls Try.prog 35 #[.pointer (some ⟨gi, 0, none⟩), .int .i64 k] X fun e w' => e = .returned (.int .i64 (t.box.ext k)) ∧ X = w'
theorem l_fS (a : Value) (W : World) : (callFunc 106 #[a]).run Try.prog W = .ok (.enter 106 #[a]) W := by kernel_rfl
theorem s_fS (a : Value) (W : World) : (callFunc 114 #[a]).run Try.prog W = .ok (.enter 114 #[a]) W := by kernel_rfl
theorem l_fA (a c : Value) (W : World) : (callFunc 102 #[a, c]).run Try.prog W = .ok (.enter 102 #[a, c]) W := by kernel_rfl
theorem s_fA (a c : Value) (W : World) : (callFunc 110 #[a, c]).run Try.prog W = .ok (.enter 110 #[a, c]) W := by kernel_rfl
def Sounds (w : World) (vs : List Value) (ts : List Tree) : Prop := ∀ (i : Nat) (t : Tree), ts[i]? = some t → ∃ v T gi Fs Fa, vs[i]? = some v ∧ PartS w v t T gi Fs Fa

theorem below_step {w a b : World} (h : Below w.heap.size w a) (k : Below a.heap.size a b) : Below w.heap.size w b := h.trans (k.mono h.size)
theorem SplitAt.below {W W' : World} {g : Nat} {b : Box} {k : Int} {sl : Value} (h : SplitAt W g b k sl) (hb : Below W.heap.size W W') : SplitAt W' g b k sl := by
  have hg : g < W.heap.size := World.block_lt_of_cell? W _ h.box.x
  exact (hb.block g hg).trans h

theorem soundAll_at (ts : List Tree) (b : Box) (k : Int) : ∀ (i : Nat) (t : Tree), ts[i]? = some t → soundAll ts b k = true → (t.sound && (!t.kindIs k && decide (t.box.ext (acrossK k) = b.ext (acrossK k)))) = true := by
  induction ts with
  | nil => intro i t h; simp at h
  | cons a ts ih =>
    intro i t h hs
    unfold soundAll at hs
    rw [Bool.and_eq_true] at hs
    cases i with
    | zero => simp at h; subst h; exact hs.1
    | succ i => exact ih i t (by simpa using h) hs.2
theorem soundAll_take (ts : List Tree) (b : Box) (k : Int) : ∀ (i : Nat) (t : Tree), ts[i]? = some t → soundAll (ts.take i) b k = true → (t.sound && (!t.kindIs k && decide (t.box.ext (acrossK k) = b.ext (acrossK k)))) = true → soundAll (ts.take (i + 1)) b k = true := by
  induction ts with
  | nil => intro i t h; simp at h
  | cons a ts ih =>
    intro i t h hs ht
    cases i with
    | zero =>
      simp at h
      subst h
      show soundAll [a] b k = true
      unfold soundAll
      rw [ht]
      rfl
    | succ i =>
      rw [List.take_succ_cons] at hs ⊢
      unfold soundAll at hs ⊢
      rw [Bool.and_eq_true] at hs ⊢
      exact ⟨hs.1, ih i t (by simpa using h) hs.2 ht⟩
theorem Tree.sound_sides (t : Tree) (h : t.sound = true) : (1 ≤ t.box.w ∧ t.box.w ≤ 1000) ∧ (1 ≤ t.box.h ∧ t.box.h ≤ 1000) := by
  cases t with
  | leaf b p =>
    unfold Tree.sound at h
    simp only [sideB, Bool.and_eq_true, decide_eq_true_eq] at h
    exact ⟨h.1.1, h.1.2⟩
  | split b k ts =>
    unfold Tree.sound at h
    simp only [sideB, Bool.and_eq_true, decide_eq_true_eq] at h
    exact ⟨h.1.2.1, h.1.2.2⟩
theorem soundAll_small (ts : List Tree) (b : Box) (k : Int) (hl : ts.length ≤ 200) (h : soundAll ts b k = true) : SmallT ts := by
  refine ⟨hl, fun t ht => ?_⟩
  obtain ⟨i, hi⟩ := List.getElem?_of_mem ht
  have := soundAll_at ts b k i t hi h
  rw [Bool.and_eq_true] at this
  exact t.sound_sides this.1

end Go.Proofs.Ytlaelkcmeaiajaa

namespace Go.Proofs.Ytlaelkcmeaiajaa
open Go.RowKit
set_option linter.unusedVariables false
set_option maxRecDepth 20000

theorem own_lt {W : World} {B : Nat} {t : TypeId} {sl : Value} {n : Nat} {vs : List Value} (h : W.ownsRow B t 1 sl n vs) : ∀ g ∈ sl.ownBlock.toList, g < W.heap.size := by
  rcases h.2 with ⟨h0, _⟩ | ⟨g, cap, cur, rfl, hb, hg, r⟩
  · intro g hg
    rw [h0] at hg
    simp [Value.ownBlock] at hg
  · intro x hx
    simp [Value.ownBlock] at hx
    subst hx
    exact lt_of_block hg
mutual
theorem Tree.At.lt {W : World} {B : Nat} : ∀ {t : Tree} {v : Value} {fp : List Nat}, t.At W B v fp → ∀ g ∈ fp, g < W.heap.size
  | .leaf b p, v, fp, h => by
    obtain ⟨g, h1, h2, rfl⟩ := h
    intro x hx
    simp only [List.mem_cons, List.not_mem_nil, or_false] at hx
    subst hx
    exact lt_of_block h2
  | .split b k ts, v, fp, h => by
    obtain ⟨g, sl, vs, fs, h1, h2, h3, h4, rfl⟩ := h
    intro x hx
    rw [List.mem_cons, List.mem_append] at hx
    rcases hx with rfl | hx | hx
    · exact lt_of_block h2
    · exact own_lt h3 x hx
    · exact partsAt.lt h4 x hx
theorem partsAt.lt {W : World} {B : Nat} : ∀ {ts : List Tree} {vs : List Value} {fp : List Nat}, partsAt W B ts vs fp → ∀ g ∈ fp, g < W.heap.size
  | [], vs, fp, h => by
    intro x hx
    rw [h.2] at hx
    cases hx
  | t :: ts, vs, fp, h => by
    obtain ⟨v, vs', f, f', h1, h2, h3, rfl⟩ := h
    intro x hx
    rw [List.mem_append] at hx
    rcases hx with hx | hx
    · exact Tree.At.lt h2 x hx
    · exact partsAt.lt h3 x hx
end
theorem Tree.At.below {W W' : World} {B : Nat} {t : Tree} {v : Value} {fp : List Nat} (h : t.At W B v fp) (hb : Below W.heap.size W W') : t.At W' B v fp := h.keep fun g hg => hb.block g (h.lt g hg)
theorem partsAt.below {W W' : World} {B : Nat} {ts : List Tree} {vs : List Value} {fp : List Nat} (h : partsAt W B ts vs fp) (hb : Below W.heap.size W W') : partsAt W' B ts vs fp := h.keep fun g hg => hb.block g (h.lt g hg)
theorem own_below {W W' : World} {B : Nat} {t : TypeId} {sl : Value} {n : Nat} {vs : List Value} (h : W.ownsRow B t 1 sl n vs) (hb : Below W.heap.size W W') : W'.ownsRow B t 1 sl n vs := own_kept h fun g hg => hb.block g (own_lt h g hg)

theorem around_ext (ts : List Tree) (k : Int) (hk : k = 2 ∨ k = 3) (hn : ts ≠ []) : (aroundB ts k).ext k = extAll ts k := by
  cases ts with
  | nil => exact absurd rfl hn
  | cons t r => rcases hk with rfl | rfl <;> rfl

/-- split.around in every later world. -/
theorem around_below (g : Nat) (b : Box) (k : Int) (hk : k = 2 ∨ k = 3) (sl : Value) (vs : List Value) (fs : List Nat) (ts : List Tree) (B : Nat) (w : World) (hS : SplitAt w g b k sl) (hR : w.ownsRow B 45 1 sl vs.length vs) (hP : partsAt w B ts vs fs) (hn : ts ≠ []) (hs : SmallT ts) (X : World) (hX : Below w.heap.size w X) :
    Calls Try.prog 53 #[.pointer (some ⟨g, 0, none⟩)] X fun e w' => e = .returned (.agg #[.int .i64 0, .int .i64 0, .int .i64 (aroundB ts k).w, .int .i64 (aroundB ts k).h]) ∧ Below X.heap.size X w' := by
  cases ts with
  | nil => exact absurd rfl hn
  | cons t r => exact around_any g b k hk sl vs fs t r B X (hS.below hX) (own_below hR hX) (hP.below hX) hs

end Go.Proofs.Ytlaelkcmeaiajaa
