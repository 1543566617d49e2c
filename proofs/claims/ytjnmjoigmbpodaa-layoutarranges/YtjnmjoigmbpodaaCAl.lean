/-
  Layouts: the first pane and the others in the document.
-/
import Derived.Test.YtjnmjoigmbpodaaCAk
import Derived.Deep.DeepCutAuto
namespace Go.Proofs.Ytjnmjoigmbpodaa
open Go.RowKit
set_option linter.unusedVariables false
set_option maxRecDepth 100000

theorem fits_side {k n : Int} (hk : k = 2 ∨ k = 3) {b : Box} (h : b.w < 1 ∨ b.h < 1) : fitsB k n b = false := by
  unfold fitsB
  have : (sideB (b.ext k) && sideB (b.ext (acrossK k))) = false := by
    rw [← box_sides b k hk]
    cases hs : (sideB b.w && sideB b.h) with
    | false => rfl
    | true =>
      have h1 := Bool.and_eq_true_iff.1 hs
      have h2 := side_of h1.1
      have h3 := side_of h1.2
      omega
  rw [this]
  rfl
theorem shared_anyS (k : Int) (hk : k = 2 ∨ k = 3) (wd ht : Int) (zs : List Int) (v : Value) (w : World) (h1 : wd ≤ 1000) (h2 : ht ≤ 1000) (hI : IdsIn w v zs) (hne : zs ≠ []) (hn3 : zs.length ≤ 400) : Calls Try.prog 41 #[v, .int .i64 k, .int .i64 wd, .int .i64 ht] w (DocS (fitsB k zs.length ⟨0, 0, wd, ht⟩) (nodeOf (evenT k zs ⟨0, 0, wd, ht⟩)) w) := by
  by_cases hb : wd < 1 ∨ ht < 1
  · refine (shared_bad k wd ht v w hb).mono fun e w' h => ⟨h.2, .inr ⟨fits_side hk hb, h.1⟩⟩
  · match zs, hne, hI, hn3 with
    | [z], _, hI, _ =>
      have hf : fitsB k (([z] : List Int).length : Nat) ⟨0, 0, wd, ht⟩ = true := by
        unfold fitsB
        rw [← box_sides ⟨0, 0, wd, ht⟩ k hk]
        show ((sideB wd && sideB ht) && (decide ((1 : Int) = 1) || _)) = true
        rw [side_mk (by omega) h1, side_mk (by omega) h2]
        rfl
      refine (shared_one k wd ht z v w (by omega) (by omega) hI).mono fun e w' h => ⟨h.2, .inl ⟨hf, none, 0, 0, [], h.1, leaf_In _ _ rfl, nofun, rfl⟩⟩
    | x :: y :: zs, _, hI, hn3 => exact shared_many k hk wd ht (x :: y :: zs) v w (by omega) (by omega) hI (by simp) hn3
theorem shared_any (k : Int) (hk : k = 2 ∨ k = 3) (wd ht : Int) (zs : List Int) (v : Value) (w : World) (h1 : wd ≤ 1000) (h2 : ht ≤ 1000) (hI : IdsIn w v zs) (hne : zs ≠ []) (hn3 : zs.length ≤ 400) : Calls Try.prog 41 #[v, .int .i64 k, .int .i64 wd, .int .i64 ht] w (DocA (fitsB k zs.length ⟨0, 0, wd, ht⟩) (nodeOf (evenT k zs ⟨0, 0, wd, ht⟩)) w) := (shared_anyS k hk wd ht zs v w h1 h2 hI hne hn3).mono fun e w' h => h.doc
theorem DocA.cases {ok : Bool} {n : Node} {w : World} {e : Ending} {w' : World} (h : DocA ok n w e w') : ∃ n' sa sn sc, e = .returned (.tuple #[.agg (nodeV n' (.slice sa sn sc)), .bool ok]) := by
  rcases h.2 with ⟨rfl, sa, sn, sc, _, e, _⟩ | ⟨rfl, e⟩
  · exact ⟨n, sa, sn, sc, e⟩
  · exact ⟨.mk 0 0 0 0 [], none, 0, 0, e⟩

/-- The document's pair of any two nodes. -/
theorem pair_any (k : Int) (hk : k = 2 ∨ k = 3) (a b : Node) (aa : Option Addr) (an ac : Nat) (ba : Option Addr) (bn bc : Nat) (fa fb : List Nat) (w : World) (ha : a.In w (.slice aa an ac) fa) (hb : b.In w (.slice ba bn bc) fb) (la : a.ks.length ≤ 500) (lb : b.ks.length ≤ 500) (na : (0 ≤ a.w ∧ a.w ≤ 1000) ∧ (0 ≤ a.h ∧ a.h ≤ 1000)) (nb : (0 ≤ b.w ∧ b.w ≤ 1000) ∧ (0 ≤ b.h ∧ b.h ≤ 1000)) :
    Calls Try.prog 56 #[.int .i64 k, .agg (nodeV a (.slice aa an ac)), .agg (nodeV b (.slice ba bn bc)), .bool false] w (PairN (.mk k (if k = 2 then a.w + b.w + 1 else a.w) (if k = 2 then a.h else a.h + b.h + 1) 0 (flatN k a ++ flatN k b)) (fa ++ fb) w) := by
  rcases hk with rfl | rfl
  · exact pair_beh2 a b aa an ac ba bn bc fa fb w ha hb la lb na nb
  · exact pair_beh3 a b aa an ac ba bn bc fa fb w ha hb la lb na nb
theorem DocA.open {ok : Bool} {n : Node} {w : World} {e : Ending} {w' : World} (h : DocA ok n w e w') : ∃ k4 w4 h4 i4 sa sn sc, e = .returned (.tuple #[.agg #[.int .i64 k4, .int .i64 w4, .int .i64 h4, .int .i64 i4, .slice sa sn sc], .bool ok]) ∧ (ok = true → (k4 = n.k ∧ w4 = n.w ∧ h4 = n.h ∧ i4 = n.i) ∧ ∃ fp, n.In w' (.slice sa sn sc) fp ∧ ∀ q ∈ fp, w.heap.size ≤ q) ∧ Below w.heap.size w w' := by
  rcases h.2 with ⟨rfl, sa, sn, sc, fp, e, h1, h2⟩ | ⟨rfl, e⟩
  · exact ⟨n.k, n.w, n.h, n.i, sa, sn, sc, e, fun _ => ⟨⟨rfl, rfl, rfl, rfl⟩, fp, h1, h2⟩, h.1⟩
  · exact ⟨0, 0, 0, 0, none, 0, 0, e, fun h => (by cases h), h.1⟩
theorem node_eta (n : Node) : n = .mk n.k n.w n.h n.i n.ks := by cases n; rfl
theorem set5_made {X : World} {g : Nat} {t : TypeId} (h : X.heap[g]? = some (.cells zeroN t (0, 0))) (v0 v1 v2 v3 v4 : Value) : (set5 X g v0 v1 v2 v3 v4).heap[g]? = some (.cells #[v0, v1, v2, v3, v4] t (0, 0)) := by
  have key : ∀ {X : World} {cs : Array Value} (o : Nat) (v : Value), X.heap[g]? = some (.cells cs t (0, 0)) → (X.setCell ⟨g, o, none⟩ v).heap[g]? = some (.cells (cs.setIfInBounds o v) t (0, 0)) := fun {X cs} o v h => by
    have hlt := lt_of_block h
    have h' : X.heap[g] = .cells cs t (0, 0) := by simpa [Array.getElem?_eq_getElem hlt] using h
    show (X.heap.modify g _)[g]? = _
    rw [Array.getElem?_eq_getElem (by simpa using hlt), Array.getElem_modify_self, h']
    rfl
  unfold set5
  rw [key 4 v4 (key 3 v3 (key 2 v2 (key 1 v1 (key 0 v0 h))))]
  rfl
/-- Where a node was put that was made ahead of a call, or behind it. -/
structure PutAt (V Y : World) (g : Nat) (A : Array Value) : Prop where
  below : Below V.heap.size V Y
  at_ : Y.heap[g]? = some (.cells A 67 (0, 0))
  ge : V.heap.size ≤ g
theorem put_behind {V X : World} (h : Below V.heap.size V X) (A : Array Value) : PutAt V (X.alloc (.cells A 67)) X.heap.size A := ⟨alloc_below h _, heap_alloc_new _ _, h.size⟩
/-- A node that was made ahead of a call. -/
structure AheadAt (V X : World) (g : Nat) : Prop where
  below : Below V.heap.size V X
  at_ : X.heap[g]? = some (.cells zeroN 67 (0, 0))
  ge : V.heap.size ≤ g
theorem ahead_of {V X1 X2 : World} (h1 : Below V.heap.size V X1) (h2 : Below (X1.alloc (.cells #[.int .i64 0, .int .i64 0, .int .i64 0, .int .i64 0, .slice none 0 0] 67)).heap.size (X1.alloc (.cells #[.int .i64 0, .int .i64 0, .int .i64 0, .int .i64 0, .slice none 0 0] 67)).drew X2) : AheadAt V X2 X1.heap.size := by
  have h3 : Below (X1.alloc (.cells #[.int .i64 0, .int .i64 0, .int .i64 0, .int .i64 0, .slice none 0 0] 67)).heap.size (X1.alloc (.cells #[.int .i64 0, .int .i64 0, .int .i64 0, .int .i64 0, .slice none 0 0] 67)) X2 := ⟨h2.os, h2.tape, h2.output, h2.size, h2.block⟩
  exact ⟨below_step (alloc_below h1 _) h3, (h3.block _ (by simp)).trans (heap_alloc_new _ _), h1.size⟩
theorem AheadAt.cells {V X : World} {g : Nat} (h : AheadAt V X g) : (X.cell? ⟨g, 0, none⟩ = some (.int .i64 0) ∧ X.cell? ⟨g, 1, none⟩ = some (.int .i64 0) ∧ X.cell? ⟨g, 2, none⟩ = some (.int .i64 0) ∧ X.cell? ⟨g, 3, none⟩ = some (.int .i64 0) ∧ X.cell? ⟨g, 4, none⟩ = some (.slice none 0 0)) ∧ (X.frozen? ⟨g, 0, none⟩ = false ∧ X.frozen? ⟨g, 1, none⟩ = false ∧ X.frozen? ⟨g, 2, none⟩ = false ∧ X.frozen? ⟨g, 3, none⟩ = false ∧ X.frozen? ⟨g, 4, none⟩ = false) := ⟨⟨cell_atL h.at_ 0, cell_atL h.at_ 1, cell_atL h.at_ 2, cell_atL h.at_ 3, cell_atL h.at_ 4⟩, free_atL h.at_ 0, free_atL h.at_ 1, free_atL h.at_ 2, free_atL h.at_ 3, free_atL h.at_ 4⟩
theorem put_ahead {V X : World} {g : Nat} (h : AheadAt V X g) (v0 v1 v2 v3 v4 : Value) : PutAt V (set5 X g v0 v1 v2 v3 v4) g #[v0, v1, v2, v3, v4] := ⟨set5_below h.below g h.ge v0 v1 v2 v3 v4, set5_made h.at_ v0 v1 v2 v3 v4, h.ge⟩
theorem drew_size (Y : World) (o : Obj) : (Y.alloc o).drew.heap.size = Y.heap.size + 1 := by
  show (Y.alloc o).heap.size = _
  simp
theorem shared_at {w Y : World} (h : Below w.heap.size w Y) : Below w.heap.size w Y.drew := ⟨h.os, h.tape, h.output, h.size, h.block⟩
theorem shared_at2 {w Y : World} (h : Below w.heap.size w Y) {o : Obj} : Below w.heap.size w (Y.alloc o).drew := shared_at (alloc_below h o)
/-- What leading works out. -/
structure LeadOf (k wd ht sz E ot fw fh rw rh : Int) (j : Int) (z0 : Int) (zs : List Int) : Prop where
  kk : k = 2 ∨ k = 3
  jj : j = 2 ∨ j = 3
  jk : 5 - k = j
  ne : j ≠ k
  e1 : 1 ≤ E ∧ E ≤ 1000
  o1 : 0 ≤ ot ∧ ot ≤ 1000
  fwE : (if k = 2 then E - 1 - ot else wd) = fw
  fhE : (if k = 2 then ht else E - 1 - ot) = fh
  rwE : (if k = 2 then ot else wd) = rw
  rhE : (if k = 2 then ht else ot) = rh
  exE : (if k = 2 then wd else ht) = E
  fx : (if k = 2 then fw else fh) = E - 1 - ot
  sides : (1 ≤ wd ∧ wd ≤ 1000) ∧ (1 ≤ ht ∧ ht ≤ 1000)
  ok : leadB k zs.length ⟨0, 0, wd, ht⟩ sz = (sideB (E - 1 - ot) && fitsB j zs.length ⟨0, 0, rw, rh⟩)
  node : nodeOf (firstT k z0 zs ⟨0, 0, wd, ht⟩ sz) = .mk k wd ht 0 [.mk 1 fw fh z0 [], nodeOf (evenT j zs ⟨0, 0, rw, rh⟩)]
theorem lead_of (k : Int) (hk : k = 2 ∨ k = 3) (wd ht sz : Int) (z0 : Int) (zs : List Int) (h1 : 1 ≤ wd ∧ wd ≤ 1000) (h2 : 1 ≤ ht ∧ ht ≤ 1000) : ∃ E ot fw fh rw rh j, othersF E sz = ot ∧ LeadOf k wd ht sz E ot fw fh rw rh j z0 zs := by
  obtain ⟨a1, a2, a3⟩ := across_two k hk
  have hE : 1 ≤ (if k = 2 then wd else ht) ∧ (if k = 2 then wd else ht) ≤ 1000 := by split <;> assumption
  have hos := others_small (z := sz) hE
  have hx : (⟨0, 0, wd, ht⟩ : Box).ext k = (if k = 2 then wd else ht) := rfl
  have hj : 5 - k = acrossK k := by rcases hk with rfl | rfl <;> rfl
  obtain ⟨E, hEe⟩ : ∃ E, (if k = 2 then wd else ht) = E := ⟨_, rfl⟩
  rw [hEe] at hE hos hx
  obtain ⟨ot, hot⟩ : ∃ x, othersF E sz = x := ⟨_, rfl⟩
  rw [hot] at hos
  have hw : ∀ n : Int, (⟨0, 0, wd, ht⟩ : Box).with k n = ⟨0, 0, if k = 2 then n else wd, if k = 2 then ht else n⟩ := fun n => by
    rcases hk with rfl | rfl
    · show (⟨0, 0, wd + (n - wd), ht⟩ : Box) = _
      rw [show wd + (n - wd) = n by omega]
      rfl
    · show (⟨0, 0, wd, ht + (n - ht)⟩ : Box) = _
      rw [show ht + (n - ht) = n by omega]
      rfl
  refine ⟨E, ot, _, _, _, _, acrossK k, hot, hk, a2, hj, a3, hE, hos, rfl, rfl, rfl, rfl, hEe, ?_, ⟨h1, h2⟩, ?_, ?_⟩
  · split <;> rfl
  · unfold leadB
    rw [hx, hot, hw]
  · unfold firstT
    rw [hx, hot, hw, hw]
    rfl

theorem LeadOf.pair {k wd ht sz E ot fw fh rw rh j z0 : Int} {zs : List Int} (h : LeadOf k wd ht sz E ot fw fh rw rh j z0 zs) : (if k = 2 then fw + rw + 1 else fw) = wd ∧ (if k = 2 then fh else fh + rh + 1) = ht := by
  have h1 := h.fwE
  have h2 := h.fhE
  have h3 := h.rwE
  have h4 := h.rhE
  have h5 := h.exE
  rcases h.kk with rfl | rfl
  · rw [if_pos rfl] at *
    exact ⟨by omega, by omega⟩
  · rw [if_neg (by decide)] at *
    exact ⟨by omega, by omega⟩
/-- A node of which nothing lies in the block that is written to. -/
theorem in_set5 {n : Node} {X : World} {sl : Value} {fp : List Nat} (h : n.In X sl fp) (g : Nat) (hg : ∀ q ∈ fp, q ≠ g) (v0 v1 v2 v3 v4 : Value) : n.In (set5 X g v0 v1 v2 v3 v4) sl fp := h.keep fun q hq => set5_block X g v0 v1 v2 v3 v4 q (hg q hq)

set_option maxHeartbeats 8000000 in
theorem leading_any (k : Int) (hk : k = 2 ∨ k = 3) (z0 : Int) (zs : List Int) (wd ht sz : Int) (v : Value) (w : World) (h1 : 1 ≤ wd ∧ wd ≤ 1000) (h2 : 1 ≤ ht ∧ ht ≤ 1000) (hsz : -9223372036854775808 ≤ sz ∧ sz ≤ 9223372036854775807) (hI : IdsIn w v (z0 :: zs)) (hne : zs ≠ []) (hn3 : zs.length ≤ 300) : Calls Try.prog 42 #[v, .int .i64 k, .int .i64 wd, .int .i64 ht, .int .i64 sz] w (DocA (leadB k zs.length ⟨0, 0, wd, ht⟩ sz) (nodeOf (firstT k z0 zs ⟨0, 0, wd, ht⟩ sz)) w) := by
  obtain ⟨g, o, cap, rfl, hcap, hz⟩ := hI
  obtain ⟨E, ot, fw, fh, rw', rh, j, hot, hLd⟩ := lead_of k hk wd ht sz z0 zs h1 h2
  have HLd : Hid (LeadOf k wd ht sz E ot fw fh rw' rh j z0 zs) := hLd
  rw [hLd.ok, hLd.node]
  have hE1 := hLd.e1
  have ho1 := hLd.o1
  obtain ⟨W, hW⟩ : ∃ x, w.alloc (.cells #[.int .i64 0, .int .i64 0, .int .i64 0, .int .i64 0, .slice none 0 0] 67) = x := ⟨_, rfl⟩
  have hWs : W.heap.size = w.heap.size + 1 := by rw [← hW]; simp
  obtain ⟨V, hV⟩ : ∃ x, W.alloc (.cells #[.int .i64 k, .int .i64 wd, .int .i64 ht, .int .i64 0, .slice none 0 0] 67) = x := ⟨_, rfl⟩
  have HS0 : Hid (SharedTo w k wd ht [] (.slice none 0 0) V) := by rw [← hV, ← hW]; exact shared_start w k wd ht
  have HW : Hid (w.alloc (.cells #[.int .i64 0, .int .i64 0, .int .i64 0, .int .i64 0, .slice none 0 0] 67) = W) := hW
  have HV : Hid (W.alloc (.cells #[.int .i64 k, .int .i64 wd, .int .i64 ht, .int .i64 0, .slice none 0 0] 67) = V) := hV
  obtain ⟨c0, c1, c2, c3, c4⟩ := HS0.out.cells
  have HCn : Hid (∀ X, Below V.heap.size V X → SharedTo w k wd ht [] (.slice none 0 0) X) := fun X hX => HS0.out.below' hX
  have HEx : Hid (∀ X, Calls Try.prog 31 #[.agg #[.int .i64 k, .int .i64 wd, .int .i64 ht, .int .i64 0, .slice none 0 0], .int .i64 k] X fun e w' => e = .returned (.int .i64 E) ∧ Below X.heap.size X w') := fun X => by
    have := ref_extent (.mk k wd ht 0 []) none 0 0 k X
    rw [← hLd.exE]
    exact this
  have HSA : Hid (∀ X, Calls Try.prog 57 #[.agg #[.int .i64 k, .int .i64 wd, .int .i64 ht, .int .i64 0, .slice none 0 0], .int .i64 z0, .int .i64 k, .int .i64 (E - 1 - ot)] X fun e w' => e = .returned (.agg #[.int .i64 1, .int .i64 fw, .int .i64 fh, .int .i64 z0, .slice none 0 0]) ∧ Below X.heap.size X w') := fun X => by
    have := sized_any (.mk k wd ht 0 []) none 0 0 z0 k (E - 1 - ot) hk X
    rw [← hLd.fwE, ← hLd.fhE]
    exact this
  have HSB : Hid (∀ X, Calls Try.prog 57 #[.agg #[.int .i64 k, .int .i64 wd, .int .i64 ht, .int .i64 0, .slice none 0 0], .int .i64 0, .int .i64 k, .int .i64 ot] X fun e w' => e = .returned (.agg #[.int .i64 1, .int .i64 rw', .int .i64 rh, .int .i64 0, .slice none 0 0]) ∧ Below X.heap.size X w') := fun X => by
    have := sized_any (.mk k wd ht 0 []) none 0 0 0 k ot hk X
    rw [← hLd.rwE, ← hLd.rhE]
    exact this
  have hrb : (0 ≤ rw' ∧ rw' ≤ 1000) ∧ (0 ≤ rh ∧ rh ≤ 1000) := by
    rw [← hLd.rwE, ← hLd.rhE]
    rcases hk with rfl | rfl
    · exact ⟨ho1, by omega, h2.2⟩
    · exact ⟨⟨by omega, h1.2⟩, ho1⟩
  obtain ⟨n, hn⟩ : ∃ n, zs.length = n := ⟨_, rfl⟩
  have hzW : ∀ X, Below w.heap.size w X → ∀ (i : Nat) z, (z0 :: zs)[i]? = some z → X.cell? ⟨g, o + i, none⟩ = some (.int .i64 z) := fun X hX i z h => (hX.cell (p := ⟨g, o + i, none⟩) (World.block_lt_of_cell? w _ (hz i z h))).trans (hz i z h)
  have HSh : Hid (∀ c X, n ≤ c → Below w.heap.size w X → Calls Try.prog 41 #[.slice (some ⟨g, o + 1, none⟩) n c, .int .i64 j, .int .i64 rw', .int .i64 rh] X (DocA (fitsB j zs.length ⟨0, 0, rw', rh⟩) (nodeOf (evenT j zs ⟨0, 0, rw', rh⟩)) X)) := fun c X hc hX => shared_any j hLd.jj rw' rh zs _ X hrb.1.2 hrb.2.2 ⟨g, o + 1, c, by rw [hn], by rw [hn]; exact hc, fun i z h => by have := hzW X hX (i + 1) z (by simpa using h); rw [show o + 1 + i = o + (i + 1) by omega]; exact this⟩ hne (by omega)
  have HZ0 : Hid (∀ X, Below w.heap.size w X → X.cell? ⟨g, o, none⟩ = some (.int .i64 z0)) := fun X hX => hzW X hX 0 z0 rfl
  rw [List.length_cons, hn] at hcap
  rw [List.length_cons, hn]
  have hcap1 : n ≤ cap - 1 := by omega
  have h1n : (1 : Int) ≤ (n : Int) + 1 := by omega
  have hc1 : cap ≠ 1 := by have := List.length_pos_iff.2 hne; omega
  have w0 : IntKind.i64.wrap (E - 1) = E - 1 := by rw [IntKind.wrap_i64]; omega
  have w1 : IntKind.i64.wrap (E - 1 - ot) = E - 1 - ot := by rw [IntKind.wrap_i64]; omega
  have w5 : IntKind.i64.wrap (5 - k) = j := by rw [← hLd.jk, IntKind.wrap_i64]; rcases hk with rfl | rfl <;> decide
  have hq : (E - 1).tdiv 2 = halfF E := by unfold halfF; rw [Int.tdiv_eq_ediv_of_nonneg (by omega)]
  obtain ⟨hf, hhf⟩ : ∃ x, halfF E = x := ⟨_, rfl⟩
  rw [hhf] at hq
  have w2 : IntKind.i64.wrap hf = hf := by rw [← hhf, IntKind.wrap_i64]; unfold halfF; omega
  have hother : (if 1 ≤ sz then max 1 (E - 1 - min sz E) else hf) = ot := by
    rw [← hot, ← hhf]
    unfold othersF
    split
    · omega
    · rfl
  obtain ⟨mn, hmn⟩ : ∃ x, min sz E = x := ⟨_, rfl⟩
  have w3 : 1 ≤ sz → IntKind.i64.wrap (E - 1 - mn) = E - 1 - mn := fun h => by rw [← hmn, IntKind.wrap_i64]; omega
  rw [hmn] at hother
  obtain ⟨ok, hok⟩ : ∃ b, fitsB j n ⟨0, 0, rw', rh⟩ = b := ⟨_, rfl⟩
  rw [hn, hok] at HSh
  rw [hok]
  obtain ⟨EN, hEN⟩ : ∃ N, nodeOf (evenT j zs ⟨0, 0, rw', rh⟩) = N := ⟨_, rfl⟩
  have HEN : Hid (EN.k ≠ k ∧ EN.ks.length ≤ 500 ∧ EN.w = rw' ∧ EN.h = rh) := by
    show _ ∧ _ ∧ _ ∧ _
    rw [← hEN]
    refine ⟨?_, ?_, by rw [nodeOf_w, even_box], by rw [nodeOf_h, even_box]⟩
    · exact nodeOf_kind _ k hk (even_kindIs j k hLd.ne _ _)
    · have h4 := even_size j zs ⟨0, 0, rw', rh⟩
      have h5 : (nodeOf (evenT j zs ⟨0, 0, rw', rh⟩)).ks.length ≤ (evenT j zs ⟨0, 0, rw', rh⟩).size := by
        cases evenT j zs ⟨0, 0, rw', rh⟩ with
        | leaf b p => exact Nat.zero_le _
        | split b k ts =>
          show (nodesOf ts).length ≤ 1 + sizes ts
          rw [nodesOf_length]
          have := length_sizes ts
          omega
      omega
  rw [hEN] at HSh ⊢
  have HRb : Hid ((0 ≤ rw' ∧ rw' ≤ 1000) ∧ (0 ≤ rh ∧ rh ≤ 1000)) := hrb
  have HK : Hid (k = 2 ∨ k = 3) := hk
  clear hW hV hz hzW hn hok hEN hot hLd hhf hrb hk
  by_cases hs : 1 ≤ sz
  · rw [if_pos hs] at hother
    have w3' := w3 hs
    have hd : decide ((1 : Int) ≤ sz) = true := decide_eq_true hs
    clear w3
    go_enter Try.func42, Try.ntmps42
    go_upto_region 1 with fail
    rw [HW.out]
    go_upto_region 2 with fail
    rw [HV.out]
    go_wp2_with fail
    refine (HEx.out _).mono ?_
    rintro e X1 ⟨rfl, hb1⟩
    have HX1 : Hid (Below V.heap.size V X1) := hb1
    have d1 := HZ0.out X1 (below_step HS0.out.below hb1)
    obtain ⟨e0, e1, e2, e3, e4⟩ := (HCn.out X1 hb1).cells
    have d1a := HZ0.out _ (alloc_below (below_step HS0.out.below hb1) (.cells #[.int .i64 0, .int .i64 0, .int .i64 0, .int .i64 0, .slice none 0 0] 67))
    obtain ⟨p0, p1, p2, p3, p4⟩ := (HCn.out _ (alloc_below hb1 (.cells #[.int .i64 0, .int .i64 0, .int .i64 0, .int .i64 0, .slice none 0 0] 67))).cells
    clear hb1 c0 c1 c2 c3 c4
    go_wp2_with fail
    have HXf : Hid (∀ X, Calls Try.prog 31 #[.agg #[.int .i64 1, .int .i64 fw, .int .i64 fh, .int .i64 z0, .slice none 0 0], .int .i64 k] X fun e w' => e = .returned (.int .i64 (E - 1 - ot)) ∧ Below X.heap.size X w') := fun X => by
      have := ref_extent (.mk 1 fw fh z0 []) none 0 0 k X
      rw [← HLd.out.fx]
      exact this
    have HV0 : Hid (w.heap.size + 2 ≤ V.heap.size) := HS0.out.lt
    go_cut [15] (fun v wx => ∃ gA, v = .pointer (some ⟨gA, 0, none⟩) ∧ Hid (PutAt V wx gA #[.int .i64 1, .int .i64 fw, .int .i64 fh, .int .i64 z0, .slice none 0 0]))
    case first =>
      go_region_law (first
        | (go_simp; go_at_call 57; refine (HSA.out _).mono ?_; rintro e X2 ⟨rfl, hb2⟩; first | (have HX2 : Hid (Below V.heap.size V X2) := below_step HX1.out ⟨hb2.os, hb2.tape, hb2.output, hb2.size, hb2.block⟩; clear hb2) | (have HX2 : Hid (AheadAt V X2 X1.heap.size) := ahead_of HX1.out hb2; obtain ⟨⟨t0, t1, t2, t3, t4⟩, t5, t6, t7, t8, t9⟩ := HX2.out.cells; clear hb2)))
      all_goals (
        go_wp2_with fail
        go_meet
        first | exact ⟨_, rfl, put_behind HX2.out _⟩ | exact ⟨_, rfl, put_ahead HX2.out _ _ _ _ _⟩)
    case rest =>
      obtain ⟨gA, rfl, HPA⟩ := hcut
      obtain ⟨Y2, hY2⟩ : ∃ x, x = wc := ⟨_, rfl⟩
      subst hY2
      have HY2 : Hid (Below V.heap.size V Y2) := HPA.out.below
      have HA2 : Hid (Y2.heap[gA]? = some (.cells #[.int .i64 1, .int .i64 fw, .int .i64 fh, .int .i64 z0, .slice none 0 0] 67 (0, 0))) := HPA.out.at_
      clear e0 e1 e2 e3 e4 d1 d1a p0 p1 p2 p3 p4
      obtain ⟨e0, e1, e2, e3, e4⟩ := (HCn.out Y2 HY2.out).cells
      go_wp2_with fail
      refine (HSB.out _).mono ?_
      rintro e X3 ⟨rfl, hb3⟩
      have HX3 : Hid (Below Y2.heap.size Y2 X3) := hb3
      clear hb3 e0 e1 e2 e3 e4
      go_upto_region 8 with fail
      obtain ⟨Y3, hY3⟩ : ∃ Y, X3.alloc (.cells #[.int .i64 1, .int .i64 rw', .int .i64 rh, .int .i64 0, .slice none 0 0] 67) = Y := ⟨_, rfl⟩
      have HY3 : Hid (Below Y2.heap.size Y2 Y3) := by rw [← hY3]; exact alloc_below HX3.out _
      have hB3 : Y3.heap[X3.heap.size]? = some (.cells #[.int .i64 1, .int .i64 rw', .int .i64 rh, .int .i64 0, .slice none 0 0] 67 (0, 0)) := by rw [← hY3]; exact heap_alloc_new _ _
      have b1 : Y3.cell? ⟨X3.heap.size, 1, none⟩ = some (.int .i64 rw') := cell_atL hB3 1
      have b2 : Y3.cell? ⟨X3.heap.size, 2, none⟩ = some (.int .i64 rh) := cell_atL hB3 2
      have HwY3 : Hid (Below w.heap.size w Y3) := below_step HS0.out.below (below_step HY2.out HY3.out)
      have HKb : Hid (∀ i, (Y3.alloc (.cells #[.int .i64 0, .int .i64 0, .int .i64 0, .int .i64 0, .slice none 0 0] 67)).cell? ⟨X3.heap.size, i, none⟩ = Y3.cell? ⟨X3.heap.size, i, none⟩) := fun i => (zero_below Y3 _).cell (p := ⟨X3.heap.size, i, none⟩) (lt_of_block hB3)
      have b1a := (HKb.out 1).trans b1
      have b2a := (HKb.out 2).trans b2
      rw [hY3]
      clear hY3 hB3
      go_cut [17, 18] (fun v vb wx => vb = .bool ok ∧ ∃ gC k4 w4 h4 i4 sa sn sc, v = .pointer (some ⟨gC, 0, none⟩) ∧ Hid (PutAt Y3 wx gC #[.int .i64 k4, .int .i64 w4, .int .i64 h4, .int .i64 i4, .slice sa sn sc]) ∧ Hid (ok = true → (k4 = EN.k ∧ w4 = EN.w ∧ h4 = EN.h ∧ i4 = EN.i) ∧ ∃ fp, EN.In wx (.slice sa sn sc) fp ∧ ∀ q ∈ fp, Y3.heap.size ≤ q))
      case first =>
        go_region_law (first
          | (go_simp; go_at_call 41; refine (HSh.out _ _ hcap1 (by first | exact shared_at HwY3.out | exact shared_at2 HwY3.out)).mono ?_; rintro e X4 hD; obtain ⟨k4, w4, h4, i4, sa, sn, sc, rfl, hD2, hD3⟩ := hD.open; first | (have HX4 : Hid (Below Y3.heap.size Y3 X4) := ⟨hD3.os, hD3.tape, hD3.output, hD3.size, hD3.block⟩; have HD : Hid (ok = true → (k4 = EN.k ∧ w4 = EN.w ∧ h4 = EN.h ∧ i4 = EN.i) ∧ ∃ fp, EN.In X4 (.slice sa sn sc) fp ∧ ∀ q ∈ fp, Y3.heap.size ≤ q) := hD2; clear hD hD2 hD3) | (have HX4 : Hid (AheadAt Y3 X4 Y3.heap.size) := ahead_of (Below.refl _ _) hD3; obtain ⟨⟨t0, t1, t2, t3, t4⟩, t5, t6, t7, t8, t9⟩ := HX4.out.cells; have HD : Hid (ok = true → (k4 = EN.k ∧ w4 = EN.w ∧ h4 = EN.h ∧ i4 = EN.i) ∧ ∃ fp, EN.In X4 (.slice sa sn sc) fp ∧ ∀ q ∈ fp, Y3.heap.size + 1 ≤ q) := (fun h => by (obtain ⟨h1, fp, h2, h3⟩ := hD2 h; exact ⟨h1, fp, h2, fun q hq => by (have h9 := h3 q hq; rw [drew_size] at h9; exact h9)⟩)); clear hD hD2 hD3)))
        all_goals (
          go_wp2_with fail
          go_meet
          first
            | exact ⟨rfl, _, k4, w4, h4, i4, sa, sn, sc, rfl, put_behind HX4.out _, fun h => by (obtain ⟨h1, fp, h2, h3⟩ := HD.out h; exact ⟨h1, fp, h2.below (zero_below _ _), h3⟩)⟩
            | exact ⟨rfl, _, k4, w4, h4, i4, sa, sn, sc, rfl, put_ahead HX4.out _ _ _ _ _, fun h => by (obtain ⟨h1, fp, h2, h3⟩ := HD.out h; exact ⟨h1, fp, in_set5 h2 _ (fun q hq => by have := h3 q hq; omega) _ _ _ _ _, fun q hq => by have := h3 q hq; omega⟩)⟩)
      case rest =>
        obtain ⟨rfl, gC, k4, w4, h4, i4, sa, sn, sc, rfl, HPC, HD⟩ := hcut
        obtain ⟨Y4, hY4⟩ : ∃ x, x = wc := ⟨_, rfl⟩
        subst hY4
        have HVY4 : Hid (Below V.heap.size V Y4) := below_step HY2.out (below_step HY3.out HPC.out.below)
        have HF4 : Hid (Y4.heap[gA]? = some (.cells #[.int .i64 1, .int .i64 fw, .int .i64 fh, .int .i64 z0, .slice none 0 0] 67 (0, 0))) := ((below_step HY3.out HPC.out.below).block _ (lt_of_block HA2.out)).trans HA2.out
        have HM4 : Hid (Y4.heap[gC]? = some (.cells #[.int .i64 k4, .int .i64 w4, .int .i64 h4, .int .i64 i4, .slice sa sn sc] 67 (0, 0))) := HPC.out.at_
        clear b1 b2 b1a b2a
        cases ok
        · obtain ⟨q0, q1, q2, q3, q4, f0, f1, f2, f3, f4⟩ := resZ_of (HCn.out Y4 HVY4.out).res
          have HwY4 : Hid (Below w.heap.size w Y4) := below_step HS0.out.below HVY4.out
          go_wp2
          exact bodyPost_ret (v := .tuple #[.agg #[.int .i64 0, .int .i64 0, .int .i64 0, .int .i64 0, .slice none 0 0], .bool false]) (by simp [results, Try.results42, go_sem, q0, q1, q2, q3, q4]) rfl ⟨set5_below HwY4.out _ (Nat.le_refl _) _ _ _ _ _, .inr ⟨by simp, rfl⟩⟩
        · have a0 : Y4.cell? ⟨gA, 0, none⟩ = some (.int .i64 1) := cell_atL HF4.out 0
          have a1 : Y4.cell? ⟨gA, 1, none⟩ = some (.int .i64 fw) := cell_atL HF4.out 1
          have a2 : Y4.cell? ⟨gA, 2, none⟩ = some (.int .i64 fh) := cell_atL HF4.out 2
          have a3 : Y4.cell? ⟨gA, 3, none⟩ = some (.int .i64 z0) := cell_atL HF4.out 3
          have a4 : Y4.cell? ⟨gA, 4, none⟩ = some (.slice none 0 0) := cell_atL HF4.out 4
          go_wp2_with fail
          refine (HXf.out _).mono ?_
          rintro e X5 ⟨rfl, hb5⟩
          have HX5 : Hid (Below Y4.heap.size Y4 X5) := hb5
          have HVX5 : Hid (Below V.heap.size V X5) := below_step HVY4.out hb5
          have HwX5 : Hid (Below w.heap.size w X5) := below_step HS0.out.below HVX5.out
          clear hb5 a0 a1 a2 a3 a4
          by_cases hlow : E - 1 - ot < 1
          · have hdl : decide (E - 1 - ot < (1 : Int)) = true := decide_eq_true hlow
            have HSf : Hid (sideB (E - 1 - ot) = false) := by
              show _ = _
              cases hs : sideB (E - 1 - ot) with
              | false => rfl
              | true => have := side_of hs; omega
            obtain ⟨q0, q1, q2, q3, q4, f0, f1, f2, f3, f4⟩ := resZ_of (HCn.out X5 HVX5.out).res
            go_wp2
            exact bodyPost_ret (v := .tuple #[.agg #[.int .i64 0, .int .i64 0, .int .i64 0, .int .i64 0, .slice none 0 0], .bool false]) (by simp [results, Try.results42, go_sem, q0, q1, q2, q3, q4]) rfl ⟨set5_below HwX5.out _ (Nat.le_refl _) _ _ _ _ _, .inr ⟨by rw [HSf.out]; rfl, rfl⟩⟩
          · have hdl : decide (E - 1 - ot < (1 : Int)) = false := decide_eq_false hlow
            have HSt : Hid (sideB (E - 1 - ot) = true) := side_mk (by omega) (by omega)
            obtain ⟨⟨rfl, rfl, rfl, rfl⟩, fp, hIn, hge⟩ := HD.out (by first | rfl | trivial)
            have hF5 := (HX5.out.block _ (lt_of_block HF4.out)).trans HF4.out
            have hM5 := (HX5.out.block _ (lt_of_block HM4.out)).trans HM4.out
            have a0 : X5.cell? ⟨gA, 0, none⟩ = some (.int .i64 1) := cell_atL hF5 0
            have a1 : X5.cell? ⟨gA, 1, none⟩ = some (.int .i64 fw) := cell_atL hF5 1
            have a2 : X5.cell? ⟨gA, 2, none⟩ = some (.int .i64 fh) := cell_atL hF5 2
            have a3 : X5.cell? ⟨gA, 3, none⟩ = some (.int .i64 z0) := cell_atL hF5 3
            have a4 : X5.cell? ⟨gA, 4, none⟩ = some (.slice none 0 0) := cell_atL hF5 4
            have m0 : X5.cell? ⟨gC, 0, none⟩ = some (.int .i64 EN.k) := cell_atL hM5 0
            have m1 : X5.cell? ⟨gC, 1, none⟩ = some (.int .i64 EN.w) := cell_atL hM5 1
            have m2 : X5.cell? ⟨gC, 2, none⟩ = some (.int .i64 EN.h) := cell_atL hM5 2
            have m3 : X5.cell? ⟨gC, 3, none⟩ = some (.int .i64 EN.i) := cell_atL hM5 3
            have m4 : X5.cell? ⟨gC, 4, none⟩ = some (.slice sa sn sc) := cell_atL hM5 4
            have hIn5 := hIn.below HX5.out
            have HPa : Hid (Calls Try.prog 56 #[.int .i64 k, .agg #[.int .i64 1, .int .i64 fw, .int .i64 fh, .int .i64 z0, .slice none 0 0], .agg #[.int .i64 EN.k, .int .i64 EN.w, .int .i64 EN.h, .int .i64 EN.i, .slice sa sn sc], .bool false] X5 (PairN (.mk k wd ht 0 [.mk 1 fw fh z0 [], EN]) ([] ++ fp) X5)) := by
              have hfb : (0 ≤ fw ∧ fw ≤ 1000) ∧ (0 ≤ fh ∧ fh ≤ 1000) := by
                have e1 := HLd.out.fwE
                have e2 := HLd.out.fhE
                rcases HK.out with rfl | rfl
                · rw [if_pos rfl] at e1 e2; omega
                · rw [if_neg (by decide)] at e1 e2; omega
              have hp := pair_any k HK.out (.mk 1 fw fh z0 []) EN none 0 0 sa sn sc [] fp X5 (leaf_In _ _ rfl) hIn5 (Nat.zero_le _) HEN.out.2.1 hfb (by rw [HEN.out.2.2.1, HEN.out.2.2.2]; exact HRb.out)
              have e1 : flatN k (.mk 1 fw fh z0 []) = [.mk 1 fw fh z0 []] := by
                unfold flatN
                rw [if_neg (by show ¬ (1 : Int) = k; rcases HK.out with rfl | rfl <;> decide)]
              have e2 : flatN k EN = [EN] := by
                unfold flatN
                rw [if_neg HEN.out.1]
              rw [e1, e2, HEN.out.2.2.1, HEN.out.2.2.2] at hp
              have e3 : (if k = 2 then (Node.mk 1 fw fh z0 []).w + rw' + 1 else (Node.mk 1 fw fh z0 []).w) = wd := HLd.out.pair.1
              have e4 : (if k = 2 then (Node.mk 1 fw fh z0 []).h else (Node.mk 1 fw fh z0 []).h + rh + 1) = ht := HLd.out.pair.2
              rw [e3, e4] at hp
              exact hp
            have HGe : Hid (∀ q ∈ ([] ++ fp : List Nat), w.heap.size + 2 ≤ q) := fun q hq => by
              have h6 := hge q hq
              have h7 := HwY3.out.size
              have h8 := (below_step HY2.out HY3.out).size
              have h9 := HV0.out
              omega
            clear hF5 hM5 hIn hge hIn5
            go_wp2_with fail
            refine HPa.out.mono ?_
            rintro e X6 ⟨pa, pn, pc, fp6, he6, hIn6, hge6, hb6⟩
            have he7 : e = .returned (.agg #[.int .i64 k, .int .i64 wd, .int .i64 ht, .int .i64 0, .slice pa pn pc]) := he6
            subst he7
            have HG6 : Hid (∀ q ∈ fp6, w.heap.size + 2 ≤ q) := fun q hq => by
              rcases hge6 q hq with h6 | h6
              · exact HGe.out q h6
              · have h7 := HVX5.out.size
                have h8 := HV0.out
                omega
            have HI6 : Hid ((Node.mk k wd ht 0 [.mk 1 fw fh z0 [], EN]).In X6 (.slice pa pn pc) fp6) := hIn6
            have HwX6 : Hid (Below w.heap.size w X6) := below_step HwX5.out hb6
            obtain ⟨q0, q1, q2, q3, q4, f0, f1, f2, f3, f4⟩ := resZ_of (HCn.out X6 (below_step HVX5.out hb6)).res
            clear he6 hIn6 hge6 hb6 a0 a1 a2 a3 a4 m0 m1 m2 m3 m4
            go_wp2
            exact bodyPost_ret (v := .tuple #[.agg #[.int .i64 k, .int .i64 wd, .int .i64 ht, .int .i64 0, .slice pa pn pc], .bool true]) (by simp [results, Try.results42, go_sem, q0, q1, q2, q3, q4]) rfl ⟨set5_below HwX6.out _ (Nat.le_refl _) _ _ _ _ _, .inl ⟨by rw [HSt.out]; rfl, pa, pn, pc, fp6, rfl, in_set5 HI6.out _ (fun q hq => by have := HG6.out q hq; omega) _ _ _ _ _, fun q hq => by have := HG6.out q hq; omega⟩⟩
  · rw [if_neg hs] at hother
    have hd : decide ((1 : Int) ≤ sz) = false := decide_eq_false hs
    have hother' : ot = hf := hother.symm
    subst hother'
    clear w3 hother
    go_enter Try.func42, Try.ntmps42
    go_upto_region 1 with fail
    rw [HW.out]
    go_upto_region 2 with fail
    rw [HV.out]
    go_wp2_with fail
    refine (HEx.out _).mono ?_
    rintro e X1 ⟨rfl, hb1⟩
    have HX1 : Hid (Below V.heap.size V X1) := hb1
    have d1 := HZ0.out X1 (below_step HS0.out.below hb1)
    obtain ⟨e0, e1, e2, e3, e4⟩ := (HCn.out X1 hb1).cells
    have d1a := HZ0.out _ (alloc_below (below_step HS0.out.below hb1) (.cells #[.int .i64 0, .int .i64 0, .int .i64 0, .int .i64 0, .slice none 0 0] 67))
    obtain ⟨p0, p1, p2, p3, p4⟩ := (HCn.out _ (alloc_below hb1 (.cells #[.int .i64 0, .int .i64 0, .int .i64 0, .int .i64 0, .slice none 0 0] 67))).cells
    clear hb1 c0 c1 c2 c3 c4
    go_wp2_with fail
    have HXf : Hid (∀ X, Calls Try.prog 31 #[.agg #[.int .i64 1, .int .i64 fw, .int .i64 fh, .int .i64 z0, .slice none 0 0], .int .i64 k] X fun e w' => e = .returned (.int .i64 (E - 1 - ot)) ∧ Below X.heap.size X w') := fun X => by
      have := ref_extent (.mk 1 fw fh z0 []) none 0 0 k X
      rw [← HLd.out.fx]
      exact this
    have HV0 : Hid (w.heap.size + 2 ≤ V.heap.size) := HS0.out.lt
    go_cut [15] (fun v wx => ∃ gA, v = .pointer (some ⟨gA, 0, none⟩) ∧ Hid (PutAt V wx gA #[.int .i64 1, .int .i64 fw, .int .i64 fh, .int .i64 z0, .slice none 0 0]))
    case first =>
      go_region_law (first
        | (go_simp; go_at_call 57; refine (HSA.out _).mono ?_; rintro e X2 ⟨rfl, hb2⟩; first | (have HX2 : Hid (Below V.heap.size V X2) := below_step HX1.out ⟨hb2.os, hb2.tape, hb2.output, hb2.size, hb2.block⟩; clear hb2) | (have HX2 : Hid (AheadAt V X2 X1.heap.size) := ahead_of HX1.out hb2; obtain ⟨⟨t0, t1, t2, t3, t4⟩, t5, t6, t7, t8, t9⟩ := HX2.out.cells; clear hb2)))
      all_goals (
        go_wp2_with fail
        go_meet
        first | exact ⟨_, rfl, put_behind HX2.out _⟩ | exact ⟨_, rfl, put_ahead HX2.out _ _ _ _ _⟩)
    case rest =>
      obtain ⟨gA, rfl, HPA⟩ := hcut
      obtain ⟨Y2, hY2⟩ : ∃ x, x = wc := ⟨_, rfl⟩
      subst hY2
      have HY2 : Hid (Below V.heap.size V Y2) := HPA.out.below
      have HA2 : Hid (Y2.heap[gA]? = some (.cells #[.int .i64 1, .int .i64 fw, .int .i64 fh, .int .i64 z0, .slice none 0 0] 67 (0, 0))) := HPA.out.at_
      clear e0 e1 e2 e3 e4 d1 d1a p0 p1 p2 p3 p4
      obtain ⟨e0, e1, e2, e3, e4⟩ := (HCn.out Y2 HY2.out).cells
      go_wp2_with fail
      refine (HSB.out _).mono ?_
      rintro e X3 ⟨rfl, hb3⟩
      have HX3 : Hid (Below Y2.heap.size Y2 X3) := hb3
      clear hb3 e0 e1 e2 e3 e4
      go_upto_region 8 with fail
      obtain ⟨Y3, hY3⟩ : ∃ Y, X3.alloc (.cells #[.int .i64 1, .int .i64 rw', .int .i64 rh, .int .i64 0, .slice none 0 0] 67) = Y := ⟨_, rfl⟩
      have HY3 : Hid (Below Y2.heap.size Y2 Y3) := by rw [← hY3]; exact alloc_below HX3.out _
      have hB3 : Y3.heap[X3.heap.size]? = some (.cells #[.int .i64 1, .int .i64 rw', .int .i64 rh, .int .i64 0, .slice none 0 0] 67 (0, 0)) := by rw [← hY3]; exact heap_alloc_new _ _
      have b1 : Y3.cell? ⟨X3.heap.size, 1, none⟩ = some (.int .i64 rw') := cell_atL hB3 1
      have b2 : Y3.cell? ⟨X3.heap.size, 2, none⟩ = some (.int .i64 rh) := cell_atL hB3 2
      have HwY3 : Hid (Below w.heap.size w Y3) := below_step HS0.out.below (below_step HY2.out HY3.out)
      have HKb : Hid (∀ i, (Y3.alloc (.cells #[.int .i64 0, .int .i64 0, .int .i64 0, .int .i64 0, .slice none 0 0] 67)).cell? ⟨X3.heap.size, i, none⟩ = Y3.cell? ⟨X3.heap.size, i, none⟩) := fun i => (zero_below Y3 _).cell (p := ⟨X3.heap.size, i, none⟩) (lt_of_block hB3)
      have b1a := (HKb.out 1).trans b1
      have b2a := (HKb.out 2).trans b2
      rw [hY3]
      clear hY3 hB3
      go_cut [17, 18] (fun v vb wx => vb = .bool ok ∧ ∃ gC k4 w4 h4 i4 sa sn sc, v = .pointer (some ⟨gC, 0, none⟩) ∧ Hid (PutAt Y3 wx gC #[.int .i64 k4, .int .i64 w4, .int .i64 h4, .int .i64 i4, .slice sa sn sc]) ∧ Hid (ok = true → (k4 = EN.k ∧ w4 = EN.w ∧ h4 = EN.h ∧ i4 = EN.i) ∧ ∃ fp, EN.In wx (.slice sa sn sc) fp ∧ ∀ q ∈ fp, Y3.heap.size ≤ q))
      case first =>
        go_region_law (first
          | (go_simp; go_at_call 41; refine (HSh.out _ _ hcap1 (by first | exact shared_at HwY3.out | exact shared_at2 HwY3.out)).mono ?_; rintro e X4 hD; obtain ⟨k4, w4, h4, i4, sa, sn, sc, rfl, hD2, hD3⟩ := hD.open; first | (have HX4 : Hid (Below Y3.heap.size Y3 X4) := ⟨hD3.os, hD3.tape, hD3.output, hD3.size, hD3.block⟩; have HD : Hid (ok = true → (k4 = EN.k ∧ w4 = EN.w ∧ h4 = EN.h ∧ i4 = EN.i) ∧ ∃ fp, EN.In X4 (.slice sa sn sc) fp ∧ ∀ q ∈ fp, Y3.heap.size ≤ q) := hD2; clear hD hD2 hD3) | (have HX4 : Hid (AheadAt Y3 X4 Y3.heap.size) := ahead_of (Below.refl _ _) hD3; obtain ⟨⟨t0, t1, t2, t3, t4⟩, t5, t6, t7, t8, t9⟩ := HX4.out.cells; have HD : Hid (ok = true → (k4 = EN.k ∧ w4 = EN.w ∧ h4 = EN.h ∧ i4 = EN.i) ∧ ∃ fp, EN.In X4 (.slice sa sn sc) fp ∧ ∀ q ∈ fp, Y3.heap.size + 1 ≤ q) := (fun h => by (obtain ⟨h1, fp, h2, h3⟩ := hD2 h; exact ⟨h1, fp, h2, fun q hq => by (have h9 := h3 q hq; rw [drew_size] at h9; exact h9)⟩)); clear hD hD2 hD3)))
        all_goals (
          go_wp2_with fail
          go_meet
          first
            | exact ⟨rfl, _, k4, w4, h4, i4, sa, sn, sc, rfl, put_behind HX4.out _, fun h => by (obtain ⟨h1, fp, h2, h3⟩ := HD.out h; exact ⟨h1, fp, h2.below (zero_below _ _), h3⟩)⟩
            | exact ⟨rfl, _, k4, w4, h4, i4, sa, sn, sc, rfl, put_ahead HX4.out _ _ _ _ _, fun h => by (obtain ⟨h1, fp, h2, h3⟩ := HD.out h; exact ⟨h1, fp, in_set5 h2 _ (fun q hq => by have := h3 q hq; omega) _ _ _ _ _, fun q hq => by have := h3 q hq; omega⟩)⟩)
      case rest =>
        obtain ⟨rfl, gC, k4, w4, h4, i4, sa, sn, sc, rfl, HPC, HD⟩ := hcut
        obtain ⟨Y4, hY4⟩ : ∃ x, x = wc := ⟨_, rfl⟩
        subst hY4
        have HVY4 : Hid (Below V.heap.size V Y4) := below_step HY2.out (below_step HY3.out HPC.out.below)
        have HF4 : Hid (Y4.heap[gA]? = some (.cells #[.int .i64 1, .int .i64 fw, .int .i64 fh, .int .i64 z0, .slice none 0 0] 67 (0, 0))) := ((below_step HY3.out HPC.out.below).block _ (lt_of_block HA2.out)).trans HA2.out
        have HM4 : Hid (Y4.heap[gC]? = some (.cells #[.int .i64 k4, .int .i64 w4, .int .i64 h4, .int .i64 i4, .slice sa sn sc] 67 (0, 0))) := HPC.out.at_
        clear b1 b2 b1a b2a
        cases ok
        · obtain ⟨q0, q1, q2, q3, q4, f0, f1, f2, f3, f4⟩ := resZ_of (HCn.out Y4 HVY4.out).res
          have HwY4 : Hid (Below w.heap.size w Y4) := below_step HS0.out.below HVY4.out
          go_wp2
          exact bodyPost_ret (v := .tuple #[.agg #[.int .i64 0, .int .i64 0, .int .i64 0, .int .i64 0, .slice none 0 0], .bool false]) (by simp [results, Try.results42, go_sem, q0, q1, q2, q3, q4]) rfl ⟨set5_below HwY4.out _ (Nat.le_refl _) _ _ _ _ _, .inr ⟨by simp, rfl⟩⟩
        · have a0 : Y4.cell? ⟨gA, 0, none⟩ = some (.int .i64 1) := cell_atL HF4.out 0
          have a1 : Y4.cell? ⟨gA, 1, none⟩ = some (.int .i64 fw) := cell_atL HF4.out 1
          have a2 : Y4.cell? ⟨gA, 2, none⟩ = some (.int .i64 fh) := cell_atL HF4.out 2
          have a3 : Y4.cell? ⟨gA, 3, none⟩ = some (.int .i64 z0) := cell_atL HF4.out 3
          have a4 : Y4.cell? ⟨gA, 4, none⟩ = some (.slice none 0 0) := cell_atL HF4.out 4
          go_wp2_with fail
          refine (HXf.out _).mono ?_
          rintro e X5 ⟨rfl, hb5⟩
          have HX5 : Hid (Below Y4.heap.size Y4 X5) := hb5
          have HVX5 : Hid (Below V.heap.size V X5) := below_step HVY4.out hb5
          have HwX5 : Hid (Below w.heap.size w X5) := below_step HS0.out.below HVX5.out
          clear hb5 a0 a1 a2 a3 a4
          by_cases hlow : E - 1 - ot < 1
          · have hdl : decide (E - 1 - ot < (1 : Int)) = true := decide_eq_true hlow
            have HSf : Hid (sideB (E - 1 - ot) = false) := by
              show _ = _
              cases hs : sideB (E - 1 - ot) with
              | false => rfl
              | true => have := side_of hs; omega
            obtain ⟨q0, q1, q2, q3, q4, f0, f1, f2, f3, f4⟩ := resZ_of (HCn.out X5 HVX5.out).res
            go_wp2
            exact bodyPost_ret (v := .tuple #[.agg #[.int .i64 0, .int .i64 0, .int .i64 0, .int .i64 0, .slice none 0 0], .bool false]) (by simp [results, Try.results42, go_sem, q0, q1, q2, q3, q4]) rfl ⟨set5_below HwX5.out _ (Nat.le_refl _) _ _ _ _ _, .inr ⟨by rw [HSf.out]; rfl, rfl⟩⟩
          · have hdl : decide (E - 1 - ot < (1 : Int)) = false := decide_eq_false hlow
            have HSt : Hid (sideB (E - 1 - ot) = true) := side_mk (by omega) (by omega)
            obtain ⟨⟨rfl, rfl, rfl, rfl⟩, fp, hIn, hge⟩ := HD.out (by first | rfl | trivial)
            have hF5 := (HX5.out.block _ (lt_of_block HF4.out)).trans HF4.out
            have hM5 := (HX5.out.block _ (lt_of_block HM4.out)).trans HM4.out
            have a0 : X5.cell? ⟨gA, 0, none⟩ = some (.int .i64 1) := cell_atL hF5 0
            have a1 : X5.cell? ⟨gA, 1, none⟩ = some (.int .i64 fw) := cell_atL hF5 1
            have a2 : X5.cell? ⟨gA, 2, none⟩ = some (.int .i64 fh) := cell_atL hF5 2
            have a3 : X5.cell? ⟨gA, 3, none⟩ = some (.int .i64 z0) := cell_atL hF5 3
            have a4 : X5.cell? ⟨gA, 4, none⟩ = some (.slice none 0 0) := cell_atL hF5 4
            have m0 : X5.cell? ⟨gC, 0, none⟩ = some (.int .i64 EN.k) := cell_atL hM5 0
            have m1 : X5.cell? ⟨gC, 1, none⟩ = some (.int .i64 EN.w) := cell_atL hM5 1
            have m2 : X5.cell? ⟨gC, 2, none⟩ = some (.int .i64 EN.h) := cell_atL hM5 2
            have m3 : X5.cell? ⟨gC, 3, none⟩ = some (.int .i64 EN.i) := cell_atL hM5 3
            have m4 : X5.cell? ⟨gC, 4, none⟩ = some (.slice sa sn sc) := cell_atL hM5 4
            have hIn5 := hIn.below HX5.out
            have HPa : Hid (Calls Try.prog 56 #[.int .i64 k, .agg #[.int .i64 1, .int .i64 fw, .int .i64 fh, .int .i64 z0, .slice none 0 0], .agg #[.int .i64 EN.k, .int .i64 EN.w, .int .i64 EN.h, .int .i64 EN.i, .slice sa sn sc], .bool false] X5 (PairN (.mk k wd ht 0 [.mk 1 fw fh z0 [], EN]) ([] ++ fp) X5)) := by
              have hfb : (0 ≤ fw ∧ fw ≤ 1000) ∧ (0 ≤ fh ∧ fh ≤ 1000) := by
                have e1 := HLd.out.fwE
                have e2 := HLd.out.fhE
                rcases HK.out with rfl | rfl
                · rw [if_pos rfl] at e1 e2; omega
                · rw [if_neg (by decide)] at e1 e2; omega
              have hp := pair_any k HK.out (.mk 1 fw fh z0 []) EN none 0 0 sa sn sc [] fp X5 (leaf_In _ _ rfl) hIn5 (Nat.zero_le _) HEN.out.2.1 hfb (by rw [HEN.out.2.2.1, HEN.out.2.2.2]; exact HRb.out)
              have e1 : flatN k (.mk 1 fw fh z0 []) = [.mk 1 fw fh z0 []] := by
                unfold flatN
                rw [if_neg (by show ¬ (1 : Int) = k; rcases HK.out with rfl | rfl <;> decide)]
              have e2 : flatN k EN = [EN] := by
                unfold flatN
                rw [if_neg HEN.out.1]
              rw [e1, e2, HEN.out.2.2.1, HEN.out.2.2.2] at hp
              have e3 : (if k = 2 then (Node.mk 1 fw fh z0 []).w + rw' + 1 else (Node.mk 1 fw fh z0 []).w) = wd := HLd.out.pair.1
              have e4 : (if k = 2 then (Node.mk 1 fw fh z0 []).h else (Node.mk 1 fw fh z0 []).h + rh + 1) = ht := HLd.out.pair.2
              rw [e3, e4] at hp
              exact hp
            have HGe : Hid (∀ q ∈ ([] ++ fp : List Nat), w.heap.size + 2 ≤ q) := fun q hq => by
              have h6 := hge q hq
              have h7 := HwY3.out.size
              have h8 := (below_step HY2.out HY3.out).size
              have h9 := HV0.out
              omega
            clear hF5 hM5 hIn hge hIn5
            go_wp2_with fail
            refine HPa.out.mono ?_
            rintro e X6 ⟨pa, pn, pc, fp6, he6, hIn6, hge6, hb6⟩
            have he7 : e = .returned (.agg #[.int .i64 k, .int .i64 wd, .int .i64 ht, .int .i64 0, .slice pa pn pc]) := he6
            subst he7
            have HG6 : Hid (∀ q ∈ fp6, w.heap.size + 2 ≤ q) := fun q hq => by
              rcases hge6 q hq with h6 | h6
              · exact HGe.out q h6
              · have h7 := HVX5.out.size
                have h8 := HV0.out
                omega
            have HI6 : Hid ((Node.mk k wd ht 0 [.mk 1 fw fh z0 [], EN]).In X6 (.slice pa pn pc) fp6) := hIn6
            have HwX6 : Hid (Below w.heap.size w X6) := below_step HwX5.out hb6
            obtain ⟨q0, q1, q2, q3, q4, f0, f1, f2, f3, f4⟩ := resZ_of (HCn.out X6 (below_step HVX5.out hb6)).res
            clear he6 hIn6 hge6 hb6 a0 a1 a2 a3 a4 m0 m1 m2 m3 m4
            go_wp2
            exact bodyPost_ret (v := .tuple #[.agg #[.int .i64 k, .int .i64 wd, .int .i64 ht, .int .i64 0, .slice pa pn pc], .bool true]) (by simp [results, Try.results42, go_sem, q0, q1, q2, q3, q4]) rfl ⟨set5_below HwX6.out _ (Nat.le_refl _) _ _ _ _ _, .inl ⟨by rw [HSt.out]; rfl, pa, pn, pc, fp6, rfl, in_set5 HI6.out _ (fun q hq => by have := HG6.out q hq; omega) _ _ _ _ _, fun q hq => by have := HG6.out q hq; omega⟩⟩

end Go.Proofs.Ytjnmjoigmbpodaa
