/-
  Options: the law's: two lists of settings are one.
  Options: Drop.
  Options: Local.
-/
import Derived.Test.YtgdkpmfdpfjdjaaGreatDoorJA
import Derived.Test.YtgdkpmfdpfjdjaaGreatDoorJC
import Derived.Test.YtgdkpmfdpfjdjaaGreatDoorOTb
import Derived.Test.YtgdkpmfdpfjdjaaGreatDoorOFnA
namespace Go.Proofs.YtgdkpmfdpfjdjaaGreatDoor
open Go.RowKit
set_option linter.unusedVariables false
set_option maxRecDepth 100000

theorem local_len (L : List Ent) (sc id : Int) : (localF L sc id).length ≤ 22 := by
  have h1 := List.length_filterMap_le (fun r : Orow => (atF L sc id r.name).map fun v => (⟨sc, id, r.name, v⟩ : Ent)) rowsO
  have h2 : rowsO.length = 22 := by decide
  unfold localF
  omega
set_option maxHeartbeats 8000000 in
theorem same_any {w : World} {va vb : Value} {l : List Ent} (ha : SeeE w va l) (hb : SeeE w vb l) (hlen : l.length ≤ 1000000) : Calls Tryz.prog 35 #[va, vb] w fun r w' => r = .returned (.bool true) ∧ Below w.heap.size w w' := by
  obtain ⟨aa, ca, rfl⟩ := ha.shape'
  obtain ⟨ab, cb, rfl⟩ := hb.shape'
  have HA := hidK ha
  have HB := hidK hb
  obtain ⟨n, hn⟩ : ∃ n, l.length = n := ⟨_, rfl⟩
  have HN := hidK hn
  rw [hn] at HA HB hlen ⊢
  clear hn ha hb
  go_enter Tryz.func35, Tryz.ntmps35
  go_wp2_with fail
  go_loopw [5] (fun i wr => ∃ k : Nat, k ≤ n ∧ i = .int .i64 k ∧ Hid (Below w.heap.size w wr)) (fun i _ => n - (intOf i).toNat)
  case atStart => exact ⟨0, Nat.zero_le _, rfl, Below.refl _ _⟩
  case round =>
    obtain ⟨k, hk, rfl, HW⟩ := hrel
    by_cases hlt : k < n
    · have hkl : k < l.length := by rw [HN.out]; exact hlt
      obtain ⟨g1, o1, rfl, h1⟩ := HA.out.cells hkl
      obtain ⟨g2, o2, rfl, h2⟩ := HB.out.cells hkl
      obtain ⟨⟨xs, xi, xn, xv⟩, hx⟩ : ∃ q, l[k] = q := ⟨_, rfl⟩
      rw [hx] at h1 h2
      have HSx : Hid (∀ X, Below w.heap.size w X → X.cell? ⟨g1, o1 + k * 4, none⟩ = some (.int .i64 xs) ∧ X.cell? ⟨g1, o1 + k * 4 + 1, none⟩ = some (.int .i64 xi) ∧ X.cell? ⟨g1, o1 + k * 4 + 2, none⟩ = some (.string xn) ∧ X.cell? ⟨g1, o1 + k * 4 + 3, none⟩ = some (.string xv) ∧ X.cell? ⟨g2, o2 + k * 4, none⟩ = some (.int .i64 xs) ∧ X.cell? ⟨g2, o2 + k * 4 + 1, none⟩ = some (.int .i64 xi) ∧ X.cell? ⟨g2, o2 + k * 4 + 2, none⟩ = some (.string xn) ∧ X.cell? ⟨g2, o2 + k * 4 + 3, none⟩ = some (.string xv)) := fun X hX => by
        obtain ⟨q1, q2, q3, q4⟩ := h1 X hX
        obtain ⟨r1, r2, r3, r4⟩ := h2 X hX
        exact ⟨q1, q2, q3, q4, r1, r2, r3, r4⟩
      have hi1 : (k : Int) < (n : Int) := by omega
      have he1 : (xn.toList == xn.toList) = true := by simp
      have he2 : (xv.toList == xv.toList) = true := by simp
      clear h1 h2 hx hkl
      go_upto_region 6 with fail
      refine wp_region_held_drew (S := (fun X => X.cell? ⟨g1, o1 + k * 4, none⟩ = some (.int .i64 xs) ∧ X.cell? ⟨g1, o1 + k * 4 + 1, none⟩ = some (.int .i64 xi) ∧ X.cell? ⟨g1, o1 + k * 4 + 2, none⟩ = some (.string xn) ∧ X.cell? ⟨g1, o1 + k * 4 + 3, none⟩ = some (.string xv) ∧ X.cell? ⟨g2, o2 + k * 4, none⟩ = some (.int .i64 xs) ∧ X.cell? ⟨g2, o2 + k * 4 + 1, none⟩ = some (.int .i64 xi) ∧ X.cell? ⟨g2, o2 + k * 4 + 2, none⟩ = some (.string xn) ∧ X.cell? ⟨g2, o2 + k * 4 + 3, none⟩ = some (.string xv))) (by kernel_rfl) ?sA (fun hHeld => ?_)
      case sA => ((try dsimp only); first | exact HSx.out _ HW.out | exact HSx.out _ HW.out.drew)
      skip
      refine wpAnyH_take (i := 0) (oi := { dst := some 17, op := Op.move (Operand.tmp 0), type := 32, pos := "law.go:34", after := #[], guard := none }) (v := ?vA0n1) rfl (by kernel_rfl) (by kernel_rfl) (by kernel_rfl) (fun _ _ _ h => h) (Or.inl ⟨by rfl, ?yA0n1⟩) (by assumption) ?rA0n1
      case yA0n1 => (intro w hSw; (try dsimp only at hSw); first | (go_simp; done) | (go_simp; with_reducible rfl))
      try simp only [Act.put, List.setIfInBounds_toArray, List.set_cons_zero, List.set_cons_succ]
      refine wpAnyH_take (i := 1) (oi := { dst := some 18, op := Op.move (Operand.tmp 5), type := 3, pos := "law.go:34", after := #[], guard := none }) (v := ?vA1n2) rfl (by kernel_rfl) (by kernel_rfl) (by kernel_rfl) (fun _ _ _ h => h) (Or.inl ⟨by rfl, ?yA1n2⟩) (by assumption) ?rA1n2
      case yA1n2 => (intro w hSw; (try dsimp only at hSw); first | (go_simp; done) | (go_simp; with_reducible rfl))
      try simp only [Act.put, List.setIfInBounds_toArray, List.set_cons_zero, List.set_cons_succ]
      refine wpAnyH_take (i := 2) (oi := { dst := some 19, op := Op.indexAddr 32 (Operand.tmp 17) (Operand.tmp 18), type := 0, pos := "law.go:34", after := #[{ on := 0, ground := Ground.data }, { on := 1, ground := Ground.data }], guard := none }) (v := ?vA2n3) rfl (by kernel_rfl) (by kernel_rfl) (by kernel_rfl) (fun _ _ _ h => h) (Or.inl ⟨by rfl, ?yA2n3⟩) (by assumption) ?rA2n3
      case yA2n3 => (intro w hSw; (try dsimp only at hSw); first | (go_simp; done) | (go_simp; with_reducible rfl))
      try simp only [Act.put, List.setIfInBounds_toArray, List.set_cons_zero, List.set_cons_succ]
      refine wpAnyH_take (i := 3) (oi := { dst := some 20, op := Op.load 87 (Operand.tmp 19), type := 87, pos := "law.go:34", after := #[{ on := 2, ground := Ground.data }], guard := none }) (v := ?vA3n4) rfl (by kernel_rfl) (by kernel_rfl) (by kernel_rfl) (fun _ _ _ h => h) (Or.inl ⟨by rfl, ?yA3n4⟩) (by assumption) ?rA3n4
      case yA3n4 => (intro w hSw; (try dsimp only at hSw); first | (go_simp; done) | (go_simp; with_reducible rfl))
      try simp only [Act.put, List.setIfInBounds_toArray, List.set_cons_zero, List.set_cons_succ]
      refine wpAnyH_take (i := 4) (oi := { dst := some 21, op := Op.move (Operand.tmp 1), type := 32, pos := "law.go:34", after := #[], guard := none }) (v := ?vA4n5) rfl (by kernel_rfl) (by kernel_rfl) (by kernel_rfl) (fun _ _ _ h => h) (Or.inl ⟨by rfl, ?yA4n5⟩) (by assumption) ?rA4n5
      case yA4n5 => (intro w hSw; (try dsimp only at hSw); first | (go_simp; done) | (go_simp; with_reducible rfl))
      try simp only [Act.put, List.setIfInBounds_toArray, List.set_cons_zero, List.set_cons_succ]
      refine wpAnyH_take (i := 5) (oi := { dst := some 22, op := Op.move (Operand.tmp 5), type := 3, pos := "law.go:34", after := #[], guard := none }) (v := ?vA5n6) rfl (by kernel_rfl) (by kernel_rfl) (by kernel_rfl) (fun _ _ _ h => h) (Or.inl ⟨by rfl, ?yA5n6⟩) (by assumption) ?rA5n6
      case yA5n6 => (intro w hSw; (try dsimp only at hSw); first | (go_simp; done) | (go_simp; with_reducible rfl))
      try simp only [Act.put, List.setIfInBounds_toArray, List.set_cons_zero, List.set_cons_succ]
      refine wpAnyH_take (i := 6) (oi := { dst := some 23, op := Op.indexAddr 32 (Operand.tmp 21) (Operand.tmp 22), type := 0, pos := "law.go:34", after := #[{ on := 4, ground := Ground.data }, { on := 5, ground := Ground.data }], guard := none }) (v := ?vA6n7) rfl (by kernel_rfl) (by kernel_rfl) (by kernel_rfl) (fun _ _ _ h => h) (Or.inl ⟨by rfl, ?yA6n7⟩) (by assumption) ?rA6n7
      case yA6n7 => (intro w hSw; (try dsimp only at hSw); first | (go_simp; done) | (go_simp; with_reducible rfl))
      try simp only [Act.put, List.setIfInBounds_toArray, List.set_cons_zero, List.set_cons_succ]
      refine wpAnyH_take (i := 7) (oi := { dst := some 24, op := Op.load 87 (Operand.tmp 23), type := 87, pos := "law.go:34", after := #[{ on := 6, ground := Ground.data }], guard := none }) (v := ?vA7n8) rfl (by kernel_rfl) (by kernel_rfl) (by kernel_rfl) (fun _ _ _ h => h) (Or.inl ⟨by rfl, ?yA7n8⟩) (by assumption) ?rA7n8
      case yA7n8 => (intro w hSw; (try dsimp only at hSw); first | (go_simp; done) | (go_simp; with_reducible rfl))
      try simp only [Act.put, List.setIfInBounds_toArray, List.set_cons_zero, List.set_cons_succ]
      refine wpAnyH_take (i := 8) (oi := { dst := some 25, op := Op.binOp BinOp.neq 87 (Operand.tmp 20) (Operand.tmp 24) 87, type := 4, pos := "law.go:34", after := #[{ on := 3, ground := Ground.data }, { on := 7, ground := Ground.data }], guard := none }) (v := ?vA8n9) rfl (by kernel_rfl) (by kernel_rfl) (by kernel_rfl) (fun _ _ _ h => h) (Or.inl ⟨by rfl, ?yA8n9⟩) (by assumption) ?rA8n9
      case yA8n9 => (intro w hSw; (try dsimp only at hSw); first | (go_simp; done) | (go_simp; with_reducible rfl))
      try simp only [Act.put, List.setIfInBounds_toArray, List.set_cons_zero, List.set_cons_succ]
      refine wpAnyH_done (by kernel_rfl) ?_ _
      have HW2 := hidK HW.out.drew
      go_wp2_with fail
      go_roundw
      case rel => exact ⟨k + 1, by omega, by go_num, HW2.out⟩
      case measure => simp [intOf]; omega
    · have hi1 : ¬ (k : Int) < (n : Int) := by omega
      go_wp2_with fail
      go_ret
      exact ⟨rfl, HW.out⟩
end Go.Proofs.YtgdkpmfdpfjdjaaGreatDoor

namespace Go.Proofs.YtgdkpmfdpfjdjaaGreatDoor
open Go.RowKit Go.Maps
set_option linter.unusedVariables false
set_option maxRecDepth 100000

theorem but_grown {b : Nat} {W a c : World} {row : Option Nat} (h : But [b] W a) (hg : a.grownBy c row) (hr : ∀ j, row = some j → W.heap.size ≤ j ∨ j = b) : But [b] W c :=
  ⟨hg.os.trans h.os, hg.tape.trans h.tape, hg.output.trans h.output, Nat.le_trans h.size hg.size, fun k hk hb => (hg.block k (Nat.lt_of_lt_of_le hk h.size) (fun e => by
    rcases hr k e.symm with q | q
    · omega
    · exact hb (by simp [q]))).trans (h.block k hk hb)⟩
theorem grown_below {a c : World} (h : Below a.heap.size a c) : a.grownBy c none := ⟨h.os, h.tape, h.output, h.size, fun i hi _ => h.block i hi⟩
/-- The loop of a call that strikes as it goes. -/
structure Dg (W wr : World) (b n : Nat) (L : List Ent) (sc id : Int) (left : Lit → Bool) (cnt : Nat) (D : DataW Unit) : Prop where
  rg : wr.ranges Tryz.prog 69 heldR b W.heap.size n D left cnt
  dc : Dc D (L.filter fun e => offP sc id e || left e.k)
  but : But [b] W wr
theorem Dg.start {W wr : World} {b n : Nat} {L : List Ent} {sc id : Int} {D : DataW Unit} (hd : Dc D L) (hr : wr.ranges Tryz.prog 69 heldR b W.heap.size n D (Maps.has D) (Maps.size D)) (hg : W.grownBy wr none) : Dg W wr b n L sc id (Maps.has D) (Maps.size D) D := by
  refine ⟨hr, ?_, but_grown (But.refl _ _) hg (fun j hj => by cases hj)⟩
  have : (L.filter fun e => offP sc id e || Maps.has D e.k) = L := List.filter_eq_self.2 fun e he => by rw [((hd.mem e).1 he).has, Bool.or_true]
  rw [this]
  exact hd
theorem offP_same {sc id : Int} {a c : Ent} (h : a.same c) : offP sc id a = offP sc id c := by unfold offP; rw [h.1, h.2.1]
theorem Dg.pass {W wr w2 : World} {b n : Nat} {L : List Ent} {sc id : Int} {left : Lit → Bool} {cnt cnt1 : Nat} {D : DataW Unit} (H : Dg W wr b n L sc id left cnt D) (hL : ∀ x ∈ L, x.wf) {e : Ent} (hin : e.In D) (ho : offP sc id e = true)
    (hrg : w2.ranges Tryz.prog 69 heldR b W.heap.size n D (fun z => left z && !z.sameKey e.k) cnt1) (hb : But [b] W w2) : Dg W w2 b n L sc id (fun z => left z && !z.sameKey e.k) cnt1 D := by
  refine ⟨hrg, ?_, hb⟩
  have : (L.filter fun x => offP sc id x || (left x.k && !x.k.sameKey e.k)) = L.filter fun x => offP sc id x || left x.k := List.filter_congr fun x hx => by
    cases q : x.k.sameKey e.k with
    | false => simp
    | true =>
      have := offP_same (sc := sc) (id := id) (Ent.k_inj (hL x hx) hin.wf (WideAt.sameKey_eq q))
      rw [this, ho]
      simp
  rw [this]
  exact H.dc
theorem Dg.del {W wr w2 : World} {b n : Nat} {L : List Ent} {sc id : Int} {left : Lit → Bool} {cnt cnt1 : Nat} {D : DataW Unit} (H : Dg W wr b n L sc id left cnt D) (hL : ∀ x ∈ L, x.wf) {e : Ent} (hin : e.In D) (ho : offP sc id e = false)
    (hrg : w2.ranges Tryz.prog 69 heldR b W.heap.size n (D.del e.k) (fun z => (left z && !z.sameKey e.k) && !z.sameKey e.k) cnt1) (hb : But [b] W w2) : Dg W w2 b n L sc id (fun z => left z && !z.sameKey e.k) cnt1 (D.del e.k) := by
  rw [Maps.strike_twice] at hrg
  refine ⟨hrg, ?_, hb⟩
  have h1 := H.dc.del hin.wf
  rw [List.filter_filter] at h1
  have : (L.filter fun x => offP sc id x || (left x.k && !x.k.sameKey e.k)) = L.filter fun x => offB e.sc e.id e.nm x && (offP sc id x || left x.k) := List.filter_congr fun x hx => by
    cases q : x.k.sameKey e.k with
    | false =>
      have : offB e.sc e.id e.nm x = true := offB_iff.2 fun z => by
        rw [Ent.k_of (show x.same e from z), WideAt.sameKey_self (Ent.lit hin.wf)] at q
        cases q
      rw [this]
      simp
    | true =>
      have hs := Ent.k_inj (hL x hx) hin.wf (WideAt.sameKey_eq q)
      have h2 := offP_same (sc := sc) (id := id) hs
      have h3 : offB e.sc e.id e.nm x = false := offB_no.2 hs
      rw [h2, ho, h3]
      simp
  rw [this]
  exact h1
theorem step_delete_ranges {ops : Array Oper} {o : Oper} {a : Act} {K : Act → World → Prop} {Q : Exit → Act → World → Prop} {E : Prop} (w : World) (hgd : o.guard = none) (m x : Operand)
    (ho : o.op = .call { callee := .builtin .delete, args := #[m, x], argTypes := #[57, 69] }) {b r n cnt : Nat} {D : DataW Unit} {left : Lit → Bool} {key : Value} {kl : Lit}
    (hm : a.eval m = .map (some b)) (hx : a.eval x = key) (hown : w.ranges Tryz.prog 69 heldR b r n D left cnt) (hkey : keyOf Tryz.prog 69 key = some kl)
    (h : ∀ w' cnt', Hid (w'.ranges Tryz.prog 69 heldR b r n (D.del kl) (fun z => left z && !z.sameKey kl) cnt' ∧ cnt' ≤ cnt ∧ w.grownBy w' (some b)) → K (a.put o.dst (.tuple #[])) w') : if Region.wanted o (yielded ops a.tmps) = true then Oper.wp Tryz.prog o a w K Q else E := by
  have hw : Region.wanted o (yielded ops a.tmps) = true := by simp [Region.wanted, hgd]
  rw [if_pos hw]
  obtain ⟨w', cnt', hrun, h1, h2, h3⟩ := hown.drop slotKeyed underHeld hkey o.type
  unfold Oper.wp
  simp [execOp, ho, resolve, invoke, builtin, hm, hx, hrun, Result.andThen]
  exact h w' cnt' ⟨h1, h2, h3.grown⟩
set_option maxHeartbeats 8000000 in
theorem drop_any {w : World} {d b n : Nat} {L : List Ent} (h : Tb w d b n L) (sc id : Int) :
    Calls Tryz.prog 37 #[.pointer (some ⟨d, 0, none⟩), .int .i64 sc, .int .i64 id] w fun e w' => e = .returned (.tuple #[]) ∧ Tn w w' d b n (dropF L sc id) := by
  have HTb := hidK h
  obtain ⟨D, hD⟩ := h
  obtain ⟨W, hW, a1, b1, s1⟩ := two_blk (w := w) #[.int .i64 sc, .int .i64 id] 64
  obtain ⟨Q, hQ⟩ : ∃ Q, w.heap.size = Q := ⟨_, rfl⟩
  rw [hQ] at a1
  have HA := hidK a1
  have HB := hidK b1
  have hc := cell_at (kpO b1 hD.blk) 0
  have HD := hidK (kpO b1 hD.blk)
  have HOwn := hidK (hD.more b1).own
  have HDc := hidK hD.dc
  have HL : Hid (∀ x ∈ L, x.wf) := fun x hx => hD.dc.wf hx
  have HQb : Hid (Q ≠ b ∧ d ≠ b ∧ d < W.heap.size ∧ Q < W.heap.size) := by
    have h1 := hD.lt
    refine ⟨?_, Tb.ne ⟨D, hD⟩, ?_, ?_⟩ <;> omega
  by_cases hid : id = 0
  · have HX : Hid (dropF L sc id = L) := if_pos hid
    have i0 : (id == 0) = true := by simpa using hid
    clear hid a1 b1 s1 hQ hD hc
    go_enter Tryz.func37, Tryz.ntmps37
    go_wp2_with fail
    first | (refine bodyPost_ret (results_none rfl _ _ _) rfl ?_) | (refine bodyPost_end (results_none rfl _ _ _) rfl ?_)
    rw [HX.out]
    exact ⟨rfl, Tn.of_below HTb.out (Below.refl _ _)⟩
  have HX : Hid (dropF L sc id = L.filter (offP sc id)) := if_neg hid
  have i0 : (id == 0) = false := by simpa using hid
  clear hid a1 b1 s1 hD
  go_enter Tryz.func37, Tryz.ntmps37
  go_wp2_with (first
    | (at_range; refine wpList_range_own _ rfl (.tmp 16) 57 rfl 69 66 slotKeyed underHeld heldR b n D rfl HOwn.out ?_; intro w0 hrg0 hg0 hs0)
    | go_in)
  clear hW hQ
  go_frame
  go_loopw [] (fun wr => ∃ left cnt D', Hid (Dg W wr b n L sc id left cnt D')) (fun wr => wr.rangeLeft b W.heap.size)
  case atStart => exact ⟨_, _, _, hidK (Dg.start HDc.out hrg0 hg0)⟩
  case round =>
    obtain ⟨left, cnt, D', HG⟩ := hrel
    go_wp2_with (first
      | (at_next; refine wpList_next_ranges _ rfl (.tmp 17) rfl 69 slotKeyed heldR (fun x : Value => x) (fun x : Value => x) (fun key _ _ => ⟨key, rfl⟩) (fun v _ _ => ⟨v, rfl⟩) b W.heap.size n D' left cnt rfl HG.out.rg ?_ ?_)
      | go_in)
    · intro hz hlz
      have HE : Hid (Dc D' (L.filter (offP sc id))) := by
        have h1 := HG.out.dc
        rw [show (L.filter fun e => offP sc id e || left e.k) = L.filter (offP sc id) from List.filter_congr fun x _ => by rw [hlz, Bool.or_false]] at h1
        exact h1
      clear hz hlz
      go_wp2_with fail
      first | (refine bodyPost_ret (results_none rfl _ _ _) rfl ?_) | (refine bodyPost_end (results_none rfl _ _ _) rfl ?_)
      refine ⟨rfl, ?_⟩
      rw [HX.out]
      have hbut := HG.out.but
      have hq := HQb.out
      refine ⟨⟨D', ?_, HG.out.rg.owns, HE.out⟩, ⟨hbut.os.trans HB.out.os, hbut.tape.trans HB.out.tape, hbut.output.trans HB.out.output, Nat.le_trans HB.out.size hbut.size, fun k hk hn => (hbut.block k (Nat.lt_of_lt_of_le hk HB.out.size) hn).trans (HB.out.block k hk)⟩⟩
      exact (hbut.block d hq.2.2.1 (by simp [hq.2.1])).trans HD.out
    · intro key val kl y1 y2 w1 cnt1 hkey hleft hval hat hrg1 hlt hg1 hs1 hen
      have hhas := Maps.has_true_of_atKey hat
      obtain ⟨e, hek, hin⟩ := HG.out.dc.keys kl hhas
      obtain ⟨s, rfl, hz⟩ := heldR_inv hval
      have hkv : key = .agg #[.int .i64 e.sc, .int .i64 e.id, .string e.nm] := by
        subst hek
        exact slotKeyed.inj hkey hin.wf.key
      subst hek hkv
      clear hval hz hat
      have hbut1 : But [b] W w1 := but_grown HG.out.but hg1 (fun j hj => by cases hj; exact .inl (Nat.le_refl _))
      obtain ⟨V, hV, av, bv, sv⟩ := two_blk (w := w1) #[.int .i64 e.sc, .int .i64 e.id, .string e.nm] 69
      obtain ⟨q, hq⟩ : ∃ q, w1.heap.size = q := ⟨_, rfl⟩
      rw [hq] at av
      have hq2 : wr.heap.size = q := hs1.symm.trans hq
      have HQq : Hid (q ≠ b) := by have h1 := hrg1.owns.lt; show _ ≠ _; omega
      have HRg : Hid (∀ X, Below V.heap.size V X → X.ranges Tryz.prog 69 heldR b W.heap.size n D' (fun z => left z && !z.sameKey e.k) cnt1) := fun X hX => (hrg1.kept (grown_below bv) (by simp) (by simp)).kept (grown_below hX) (by simp) (by simp)
      have HBu : Hid (∀ X, Below V.heap.size V X → But [b] W X) := fun X hX => but_grown (but_grown hbut1 (grown_below bv) (fun j hj => by cases hj)) (grown_below hX) (fun j hj => by cases hj)
      have HLt : Hid (cnt1 < wr.rangeLeft b W.heap.size) := by show _ < _; rw [HG.out.rg.left_eq]; exact hlt
      have HIn := hidK hin
      have HVd : Hid (V.heap[d]? = some (.cells #[.map (some b)] 59 (0, 0))) := ((HBu.out V (Below.refl _ _)).block d HQb.out.2.2.1 (by simp [HQb.out.2.1])).trans HD.out
      have HVQ : Hid (V.heap[Q]? = some (.cells #[.int .i64 sc, .int .i64 id] 64 (0, 0))) := ((HBu.out V (Below.refl _ _)).block Q HQb.out.2.2.2 (by simp [HQb.out.1])).trans HA.out
      have HVq := hidK av
      obtain ⟨es, hes⟩ : ∃ x, e.sc = x := ⟨_, rfl⟩
      obtain ⟨ei, hei⟩ : ∃ x, e.id = x := ⟨_, rfl⟩
      obtain ⟨en, hen2⟩ : ∃ x, e.nm = x := ⟨_, rfl⟩
      have HEe := hidK (And.intro hes (And.intro hei hen2))
      have HWk : Hid (keyOf Tryz.prog 69 (.agg #[.int .i64 e.sc, .int .i64 e.id, .string e.nm]) = some e.k) := hin.wf.key
      rw [hes, hei, hen2] at HVq hV hen HWk
      have c0 := cell_at HVq.out 0
      have c1 := cell_at HVq.out 1
      have c2 := cell_at HVq.out 2
      have t0 := cell_at HVQ.out 0
      have t1 := cell_at HVQ.out 1
      have d0 := cell_at HVd.out 0
      clear hes hei hen2 av bv sv hrg1 hg1 hbut1 hin hkey hleft hlt hhas hs1 hc
      have HHd : Hid (D'.atKey e.k zeroD = heldD e.vl) := HIn.out.at_
      have HSx : Hid (∀ X, Below V.heap.size V X → X.cell? ⟨d, 0, none⟩ = some (.map (some b)) ∧ X.cell? ⟨q, 0, none⟩ = some (.int .i64 es) ∧ X.cell? ⟨q, 1, none⟩ = some (.int .i64 ei) ∧ X.cell? ⟨q, 2, none⟩ = some (.string en)) := fun X hX => ⟨cell_at (kpO hX HVd.out) 0, cell_at (kpO hX HVq.out) 0, cell_at (kpO hX HVq.out) 1, cell_at (kpO hX HVq.out) 2⟩
      have HBv := hidK (Below.refl V.heap.size V)
      by_cases hoff : es = sc ∧ ei = id
      · have HOf : Hid (offP sc id e = false) := offP_no.2 ⟨HEe.out.1.trans hoff.1, HEe.out.2.1.trans hoff.2⟩
        obtain ⟨q1, q2⟩ := hoff
        have e1 : (es == sc) = true := by simpa using q1
        have e2 : (ei == id) = true := by simpa using q2
        clear q1 q2
        go_upto_region 6 with fail
        refine wp_region_held_drew (S := (fun X => X.cell? ⟨d, 0, none⟩ = some (.map (some b)) ∧ X.cell? ⟨q, 0, none⟩ = some (.int .i64 es) ∧ X.cell? ⟨q, 1, none⟩ = some (.int .i64 ei) ∧ X.cell? ⟨q, 2, none⟩ = some (.string en))) (by kernel_rfl) ?sA (fun hHeld => ?_)
        case sA => ((try dsimp only); first | exact HSx.out _ (by first | exact HBv.out | exact HBv.out.drew) | exact HSz.out)
        have HBn := hidK HBv.out.drew
        clear HBv
        have HBv := hidK HBn.out
        clear HBn
        refine wpAnyH_take (i := 0) (oi := { dst := some 26, op := Op.move (Operand.tmp 0), type := 25, pos := "options.go:183", after := #[], guard := none }) (v := ?vA0n1) rfl (by kernel_rfl) (by kernel_rfl) (by kernel_rfl) (fun _ _ _ h => h) (Or.inl ⟨by rfl, ?yA0n1⟩) (by assumption) ?rA0n1
        case yA0n1 => (intro w hSw; (try dsimp only at hSw); first | (go_simp; done) | (go_simp; with_reducible rfl))
        try simp only [Act.put, List.setIfInBounds_toArray, List.set_cons_zero, List.set_cons_succ]
        refine wpAnyH_take (i := 1) (oi := { dst := some 27, op := Op.nilCheck (Operand.tmp 26), type := 0, pos := "options.go:183", after := #[{ on := 0, ground := Ground.data }], guard := none }) (v := ?vA1n2) rfl (by kernel_rfl) (by kernel_rfl) (by kernel_rfl) (fun _ _ _ h => h) (Or.inl ⟨by rfl, ?yA1n2⟩) (by assumption) ?rA1n2
        case yA1n2 => (intro w hSw; (try dsimp only at hSw); first | (go_simp; done) | (go_simp; with_reducible rfl))
        try simp only [Act.put, List.setIfInBounds_toArray, List.set_cons_zero, List.set_cons_succ]
        refine wpAnyH_take (i := 2) (oi := { dst := some 28, op := Op.fieldAddr 59 (Operand.tmp 27) 0, type := 0, pos := "options.go:183", after := #[{ on := 1, ground := Ground.data }], guard := none }) (v := ?vA2n3) rfl (by kernel_rfl) (by kernel_rfl) (by kernel_rfl) (fun _ _ _ h => h) (Or.inl ⟨by rfl, ?yA2n3⟩) (by assumption) ?rA2n3
        case yA2n3 => (intro w hSw; (try dsimp only at hSw); first | (go_simp; done) | (go_simp; with_reducible rfl))
        try simp only [Act.put, List.setIfInBounds_toArray, List.set_cons_zero, List.set_cons_succ]
        refine wpAnyH_take (i := 3) (oi := { dst := some 29, op := Op.load 57 (Operand.tmp 28), type := 57, pos := "options.go:183", after := #[{ on := 2, ground := Ground.data }], guard := none }) (v := ?vA3n4) rfl (by kernel_rfl) (by kernel_rfl) (by kernel_rfl) (fun _ _ _ h => h) (Or.inl ⟨by rfl, ?yA3n4⟩) (by assumption) ?rA3n4
        case yA3n4 => (intro w hSw; (try dsimp only at hSw); first | (go_simp; done) | (go_simp; with_reducible rfl))
        try simp only [Act.put, List.setIfInBounds_toArray, List.set_cons_zero, List.set_cons_succ]
        refine wpAnyH_take (i := 4) (oi := { dst := some 30, op := Op.load 69 (Operand.tmp 7), type := 69, pos := "options.go:183", after := #[], guard := none }) (v := ?vA4n5) rfl (by kernel_rfl) (by kernel_rfl) (by kernel_rfl) (fun _ _ _ h => h) (Or.inl ⟨by rfl, ?yA4n5⟩) (by assumption) ?rA4n5
        case yA4n5 => (intro w hSw; (try dsimp only at hSw); first | (go_simp; done) | (go_simp; with_reducible rfl))
        try simp only [Act.put, List.setIfInBounds_toArray, List.set_cons_zero, List.set_cons_succ]
        refine wpAnyH_ready (rs := [5]) (by kernel_rfl) (by simp) (AllReadyH.cons (o := { dst := none, op := Op.call { callee := Callee.builtin Builtin.delete, args := #[Operand.tmp 29, Operand.tmp 30], argTypes := #[57, 69] }, type := 0, pos := "options.go:183", after := #[{ on := 3, ground := Ground.data }, { on := 4, ground := Ground.data }], guard := none }) rfl (fun K hK => ?bAn6q0) AllReadyH.nil)
        refine step_delete_ranges _ rfl (.tmp 29) (.tmp 30) rfl ?hm1 ?hx1 (HRg.out _ HBv.out) HWk.out ?_
        case hm1 => simp [Act.eval]
        case hx1 => (first | (simp [Act.eval]; done) | (simp [Act.eval]; rfl))
        intro w5 c5 ho5
        have HSz : Hid (w5.cell? ⟨d, 0, none⟩ = some (.map (some b)) ∧ w5.cell? ⟨q, 0, none⟩ = some (.int .i64 es) ∧ w5.cell? ⟨q, 1, none⟩ = some (.int .i64 ei) ∧ w5.cell? ⟨q, 2, none⟩ = some (.string en)) := by have g0 : ∀ g, g ≠ b → g < V.heap.size → w5.heap[g]? = V.heap[g]? := fun g hg hl => (ho5.out.2.2.block g (Nat.lt_of_lt_of_le hl HBv.out.size) (fun z => hg (Option.some.inj z))).trans (HBv.out.block g hl); have g1 := (g0 d HQb.out.2.1 (lt_block HVd.out)).trans HVd.out; have g2 := (g0 q HQq.out (lt_block HVq.out)).trans HVq.out; exact ⟨cell_at g1 0, cell_at g2 0, cell_at g2 1, cell_at g2 2⟩
        have HBw : Hid (But [b] W w5) := but_grown (HBu.out _ HBv.out) ho5.out.2.2 (fun j hj => by cases hj; exact .inr rfl)
        refine hK.out _ _ ?kAn6o5 (fun hHeld6 => ?_)
        case kAn6o5 => ((try dsimp only); first | exact HSx.out _ (by first | exact HBv.out | exact HBv.out.drew) | exact HSz.out)
        clear hK K
        try simp only [Act.put]
        refine wpAnyH_done (by kernel_rfl) ?_ _
        go_wp2_with fail
        exact ⟨⟨_, _, _, hidK (HG.out.del HL.out HIn.out HOf.out ho5.out.1 HBw.out)⟩, by have h1 := HLt.out; have h2 := ho5.out.1.left_eq; have h3 := ho5.out.2.1; omega⟩
      · have HOf : Hid (offP sc id e = true) := offP_iff.2 (fun z => hoff ⟨HEe.out.1.symm.trans z.1, HEe.out.2.1.symm.trans z.2⟩)
        by_cases q1 : es = sc
        · have e1 : (es == sc) = true := by simpa using q1
          have e2 : (ei == id) = false := by simpa using fun z => hoff ⟨q1, z⟩
          clear hoff q1
          go_wp2_with fail
          exact ⟨⟨_, _, _, hidK (HG.out.pass HL.out HIn.out HOf.out (HRg.out _ (Below.refl _ _)) (HBu.out _ (Below.refl _ _)))⟩, by have h1 := HLt.out; have h2 := (HRg.out _ (Below.refl _ _)).left_eq; omega⟩
        · have e1 : (es == sc) = false := by simpa using q1
          clear hoff q1
          go_wp2_with fail
          exact ⟨⟨_, _, _, hidK (HG.out.pass HL.out HIn.out HOf.out (HRg.out _ (Below.refl _ _)) (HBu.out _ (Below.refl _ _)))⟩, by have h1 := HLt.out; have h2 := (HRg.out _ (Below.refl _ _)).left_eq; omega⟩
end Go.Proofs.YtgdkpmfdpfjdjaaGreatDoor

namespace Go.Proofs.YtgdkpmfdpfjdjaaGreatDoor
open Go.RowKit Go.Maps
set_option linter.unusedVariables false
set_option maxRecDepth 100000

structure Lg (W wr : World) (b n : Nat) (D : DataW Unit) (sc id : Int) (ov : Value) (l : List Ent) (left : Lit → Bool) (cnt : Nat) : Prop where
  rg : wr.ranges Tryz.prog 69 heldR b W.heap.size n D left cnt
  below : Below W.heap.size W wr
  own : EntsAt wr (W.heap.size + 1) ov l
  mem : ∀ e, e ∈ l ↔ (e.sc = sc ∧ e.id = id) ∧ e.In D ∧ left e.k = false
  nd : l.Pairwise fun a b => ¬ a.nm = b.nm
theorem in_one {D : DataW Unit} {a b : Ent} (ha : a.In D) (hb : b.In D) (h : a.same b) : a = b := by
  refine Ent.ext' h ?_
  have h1 := ha.at_
  rw [Ent.k_of h, hb.at_] at h1
  exact (heldD_inj h1).symm
theorem Lg.skip {W wr w2 : World} {b n : Nat} {D : DataW Unit} {sc id : Int} {ov : Value} {l : List Ent} {left : Lit → Bool} {cnt cnt1 : Nat} (H : Lg W wr b n D sc id ov l left cnt) {e : Ent} (hin : e.In D) (net : ¬ (e.sc = sc ∧ e.id = id))
    (hrg : w2.ranges Tryz.prog 69 heldR b W.heap.size n D (fun z => left z && !z.sameKey e.k) cnt1) (hb : Below W.heap.size W w2) (ho : EntsAt w2 (W.heap.size + 1) ov l) : Lg W w2 b n D sc id ov l (fun z => left z && !z.sameKey e.k) cnt1 := by
  refine ⟨hrg, hb, ho, fun x => (H.mem x).trans ⟨fun ⟨q1, q2, q3⟩ => ⟨q1, q2, by simp [q3]⟩, fun ⟨q1, q2, q3⟩ => ⟨q1, q2, ?_⟩⟩, H.nd⟩
  simp only [Bool.and_eq_false_iff, Bool.not_eq_false'] at q3
  rcases q3 with q | q
  · exact q
  · have := Ent.k_inj q2.wf hin.wf (WideAt.sameKey_eq q)
    exact absurd ⟨this.1.symm.trans q1.1, this.2.1.symm.trans q1.2⟩ net
theorem Lg.more {W wr w2 : World} {b n : Nat} {D : DataW Unit} {sc id : Int} {ov ov2 : Value} {l : List Ent} {left : Lit → Bool} {cnt cnt1 : Nat} (H : Lg W wr b n D sc id ov l left cnt) {e : Ent} (hin : e.In D) (het : e.sc = sc ∧ e.id = id) (hl : left e.k = true)
    (hrg : w2.ranges Tryz.prog 69 heldR b W.heap.size n D (fun z => left z && !z.sameKey e.k) cnt1) (hb : Below W.heap.size W w2) (ho : EntsAt w2 (W.heap.size + 1) ov2 (l ++ [e])) : Lg W w2 b n D sc id ov2 (l ++ [e]) (fun z => left z && !z.sameKey e.k) cnt1 := by
  refine ⟨hrg, hb, ho, fun x => ?_, ?_⟩
  · rw [List.mem_append, List.mem_singleton, H.mem]
    simp only [Bool.and_eq_false_iff, Bool.not_eq_false']
    constructor
    · rintro (⟨q1, q2, q3⟩ | rfl)
      · exact ⟨q1, q2, .inl q3⟩
      · exact ⟨het, hin, .inr (WideAt.sameKey_self (Ent.lit hin.wf))⟩
    · rintro ⟨q1, q2, q3 | q3⟩
      · exact .inl ⟨q1, q2, q3⟩
      · exact .inr (in_one q2 hin (Ent.k_inj q2.wf hin.wf (WideAt.sameKey_eq q3)))
  · rw [List.pairwise_append]
    refine ⟨H.nd, by simp, fun a ha c hc hq => ?_⟩
    rw [List.mem_singleton] at hc
    subst hc
    obtain ⟨q1, q2, q3⟩ := (H.mem a).1 ha
    have := Ent.k_of (show a.same c from ⟨q1.1.trans het.1.symm, q1.2.trans het.2.symm, hq⟩)
    rw [this, hl] at q3
    cases q3
theorem Lg.len {W wr : World} {b n : Nat} {D : DataW Unit} {sc id : Int} {ov : Value} {l : List Ent} {left : Lit → Bool} {cnt : Nat} (H : Lg W wr b n D sc id ov l left cnt) {L : List Ent} (hd : Dc D L) (hG : Good L) : l.length ≤ 500 :=
  Nat.le_trans (nodup_len (H.nd.imp fun h q => h (by rw [q])) fun e he => (hd.mem e).2 ((H.mem e).1 he).2.1) hG.few
theorem Lg.grown {W wr w1 : World} {b n : Nat} {D : DataW Unit} {sc id : Int} {ov : Value} {l : List Ent} {left : Lit → Bool} {cnt : Nat} (H : Lg W wr b n D sc id ov l left cnt) (hg : wr.grownBy w1 (some W.heap.size)) : Below W.heap.size W w1 ∧ EntsAt w1 (W.heap.size + 1) ov l := by
  refine ⟨H.below.grown hg H.below.size (fun j hj => by cases hj; exact Nat.le_refl _), H.own.keep fun g hgo => ?_⟩
  obtain ⟨q1, cur, q2⟩ := H.own.blk hgo
  exact hg.block g (lt_block q2) (fun q => by cases q; omega)
theorem step_append_ent {ops : Array Oper} {o : Oper} {a : Act} {K : Act → World → Prop} {Q : Exit → Act → World → Prop} {E : Prop} (w : World) (hgd : o.guard = none) (s x : Operand)
    (ho : o.op = .call { callee := .builtin .append, args := #[s, x], argTypes := #[32, 32] })
    (B : Nat) (v : Value) (l : List Ent) (hs : a.eval s = v) (hown : EntsAt w B v l) (G : Nat) (e : Ent) (hx : a.eval x = .slice (some ⟨G, 0, none⟩) 1 1) (hG : w.heap[G]? = some (.cells (encE e).toArray 87 (0, 0)))
    (hlen : l.length ≤ 20000000) (hbase : B ≤ w.heap.size)
    (h : ∀ v' w', Hid (EntsAt w' B v' (l ++ [e]) ∧ w.grownBy w' v.ownBlock) → K (a.put o.dst v') w') : if Region.wanted o (yielded ops a.tmps) = true then Oper.wp Tryz.prog o a w K Q else E := by
  have hw : Region.wanted o (yielded ops a.tmps) = true := by simp [Region.wanted, hgd]
  rw [if_pos hw]
  obtain ⟨i0, hi, hz0, hz1, hz2⟩ := info_parts infoBindE
  refine wp_append_own w s x 32 ho B 87 i0 (.agg #[.int .i64 0, .int .i64 0, .string ⟨#[]⟩, .string ⟨#[]⟩]) 4 48 underBinds hi hz0 hz1 hz2 rfl (by decide) v l.length (l.flatMap encE) hs hown ⟨G, 0, none⟩ 1 1 (encE e) hx rfl ?_ ?_ (by unfold maxLen; omega) (by omega) hbase ?_
  · intro j u hu
    have hj : j < 4 := (List.getElem?_eq_some_iff.1 hu).1
    rw [addB, Nat.zero_add, cell_at hG j]
    rw [List.getElem?_toArray]
    exact hu
  · intro u hu
    simp only [encE, List.mem_cons, List.not_mem_nil, or_false] at hu
    rcases hu with e | e | e | e <;> rw [e] <;> rfl
  · intro v' w' h2 h3 _
    refine h v' w' ⟨?_, h3⟩
    unfold EntsAt
    rw [List.length_append, List.flatMap_append]
    simpa using h2
set_option maxHeartbeats 8000000 in
theorem local_own {w : World} {d b n : Nat} {L : List Ent} (h : Tb w d b n L) (hG : Good L) (sc id : Int) :
    Calls Tryz.prog 34 #[.pointer (some ⟨d, 0, none⟩), .int .i64 sc, .int .i64 id] w fun e w' => ∃ v, e = .returned v ∧ EntsAt w' w.heap.size v (localF L sc id) ∧ Below w.heap.size w w' := by
  obtain ⟨D, hD⟩ := h
  obtain ⟨W, hW, a1, b1, s1⟩ := two_blk (w := w) #[.int .i64 sc, .int .i64 id] 64
  obtain ⟨Q, hQ⟩ : ∃ Q, w.heap.size = Q := ⟨_, rfl⟩
  rw [hQ] at a1
  have HA := hidK a1
  have HB := hidK b1
  have hc := cell_at (kpO b1 hD.blk) 0
  have HD := hidK (kpO b1 hD.blk)
  have HOwn := hidK (hD.more b1).own
  have HDc := hidK hD.dc
  have HGo := hidK hG
  have HbW : Hid (b < W.heap.size) := by have h1 := hD.lt; show _ < _; omega
  have HVl : Hid (∀ e : Ent, e.In D → e.vl.size ≤ 140737488355328) := fun e he => (hG.each e ((hD.dc.mem e).2 he)).1
  clear a1 b1 s1 hD hG
  go_enter Tryz.func34, Tryz.ntmps34
  go_wp2_with (first
    | (at_range; refine wpList_range_own _ rfl (.tmp 17) 57 rfl 69 66 slotKeyed underHeld heldR b n D rfl HOwn.out ?_; intro w0 hrg0 hg0 hs0)
    | go_in)
  clear hW hQ hc
  go_frame
  go_loopw [8] (fun ov wr => ∃ l left cnt, Hid (Lg W wr b n D sc id ov l left cnt)) (fun _ wr => wr.rangeLeft b W.heap.size)
  case atStart =>
    refine ⟨[], _, _, hidK ⟨hrg0, (Below.refl _ _).grown hg0 (Nat.le_refl _) (fun j hj => by cases hj), EntsAt.nil _ _, fun e => ?_, List.Pairwise.nil⟩⟩
    simp only [List.not_mem_nil, false_iff]
    rintro ⟨q1, q2, q3⟩
    rw [q2.has] at q3
    cases q3
  case round =>
    obtain ⟨l, left, cnt, HL⟩ := hrel
    go_wp2_with (first
      | (at_next; refine wpList_next_ranges _ rfl (.tmp 18) rfl 69 slotKeyed heldR (fun x : Value => x) (fun x : Value => x) (fun key _ _ => ⟨key, rfl⟩) (fun v _ _ => ⟨v, rfl⟩) b W.heap.size n D left cnt rfl HL.out.rg ?_ ?_)
      | go_in)
    · intro hz hlz
      have hlen := HL.out.len HDc.out HGo.out
      have HM : Hid (∀ e, e ∈ l ↔ (e.sc = sc ∧ e.id = id) ∧ e.In D) := fun e => by rw [HL.out.mem, hlz]; simp
      have HN := hidK HL.out.nd
      have HBw := hidK HL.out.below
      have HOw := hidK HL.out.own
      rcases HL.out.own.2 with ⟨rfl, hl0⟩ | ⟨g, cap, cur, rfl, hbg, hg, r1⟩
      · have hl : l = [] := List.length_eq_zero_iff.1 hl0
        subst hl
        clear hz hlz HL hl0 hlen
        go_wp2_with (go_at_call 56; refine (AnyF.slices_SortFunc_none Tryz.sortB none 0 _ _).mono ?_; rintro e w' ⟨rfl, rfl⟩)
        go_ret
        refine ⟨_, rfl, ?_, bst HB.out HBw.out⟩
        rw [← local_is HDc.out HGo.out List.Pairwise.nil HM.out]
        exact EntsAt.base HOw.out (by have := HB.out.size; omega)
      · have HG := hidK (And.intro hbg (lt_block hg))
        clear hz hlz HL hbg hg r1
        have HLn := hidK hlen
        clear hlen
        go_wp2_with (go_at_call 56; refine (sort_own HOw.out HN.out (by have := HLn.out; omega)).mono ?_; rintro e w' ⟨rfl, hex⟩; have HX := hidK hex; clear hex)
        go_ret
        obtain ⟨l', hp, hu, hse, hgr, hs⟩ := HX.out
        refine ⟨_, rfl, ?_, bst HB.out (HBw.out.grown hgr HBw.out.size (fun j hj => by cases hj; have := HG.out.1; omega))⟩
        rw [← local_is HDc.out HGo.out hu (fun e => by rw [hp.mem_iff]; exact HM.out e)]
        exact EntsAt.base hs (by have := HB.out.size; omega)
    · intro key val kl y1 y2 w1 cnt1 hkey hleft hval hat hrg1 hlt hg1 hs1 hen
      have hhas := Maps.has_true_of_atKey hat
      obtain ⟨e, hek, hin⟩ := HDc.out.keys kl hhas
      obtain ⟨s, rfl, hz⟩ := heldR_inv hval
      have hkv : key = .agg #[.int .i64 e.sc, .int .i64 e.id, .string e.nm] := by
        subst hek
        exact slotKeyed.inj hkey hin.wf.key
      have hsv : e.vl = s := by
        refine heldD_inj ?_
        rw [← hin.at_, hek, hat]
        exact congrArg Prod.fst hz
      subst hek hkv hsv
      clear hval hz hat
      obtain ⟨hb1, ho1⟩ := HL.out.grown hg1
      obtain ⟨q, hq⟩ : ∃ q, w1.heap.size = q := ⟨_, rfl⟩
      obtain ⟨V, hV⟩ : ∃ W, (w1.alloc (.cells #[.int .i64 e.sc, .int .i64 e.id, .string e.nm] 69)).alloc (.cells #[.string e.vl] 66) = W := ⟨_, rfl⟩
      have av0 : V.heap[q]? = some (.cells #[.int .i64 e.sc, .int .i64 e.id, .string e.nm] 69 (0, 0)) := by rw [← hV, ← hq]; exact alloc_at (heap_alloc_new _ _) _
      have av : V.heap[q + 1]? = some (.cells #[.string e.vl] 66 (0, 0)) := by
        have z : (w1.alloc (.cells #[.int .i64 e.sc, .int .i64 e.id, .string e.nm] 69)).heap.size = q + 1 := by simp [hq]
        rw [← hV, ← z]
        exact heap_alloc_new _ _
      have hbv : Below w1.heap.size w1 V := by rw [← hV]; exact ((Below.refl _ _).alloc (Nat.le_refl _) _).alloc (by simp) _
      have hq2 : wr.heap.size = q := hs1.symm.trans hq
      have HRg : Hid (∀ X o, V.grownBy X o → o ≠ some b → o ≠ some W.heap.size → X.ranges Tryz.prog 69 heldR b W.heap.size n D (fun z => left z && !z.sameKey e.k) cnt1) := fun X o hX h1 h2 => (hrg1.kept (grown_below hbv) (by simp) (by simp)).kept hX h1.symm h2.symm
      have HLt : Hid (cnt1 < wr.rangeLeft b W.heap.size) := by show _ < _; rw [HL.out.rg.left_eq]; exact hlt
      have HIn := hidK hin
      have HLe := hidK hleft
      have HBV : Hid (Below W.heap.size W V) := bst hb1 hbv
      have HOV := hidK (ho1.below hbv)
      have HSz : Hid (W.heap.size + 1 ≤ V.heap.size) := by
        have h2 := hrg1.lt
        have h3 := hbv.size
        show _ ≤ _
        omega
      have HVq := hidK av0
      have HVh := hidK av
      have HLn := hidK (HL.out.len HDc.out HGo.out)
      obtain ⟨es, hes⟩ : ∃ x, e.sc = x := ⟨_, rfl⟩
      obtain ⟨ei, hei⟩ : ∃ x, e.id = x := ⟨_, rfl⟩
      obtain ⟨en, hen2⟩ : ∃ x, e.nm = x := ⟨_, rfl⟩
      obtain ⟨ev, hev⟩ : ∃ x, e.vl = x := ⟨_, rfl⟩
      have HEe := hidK (And.intro hes (And.intro hei (And.intro hen2 hev)))
      have HCn : Hid (∀ X, Calls Tryz.prog 23 #[.string en] X fun r w' => r = .returned (.string en) ∧ Below X.heap.size X w') := fun X => clone_any en X (by rw [← hen2]; exact hin.wf.2.2)
      have HCv : Hid (∀ X, Calls Tryz.prog 23 #[.string ev] X fun r w' => r = .returned (.string ev) ∧ Below X.heap.size X w') := fun X => clone_any ev X (by rw [← hev]; exact HVl.out e hin)
      rw [hes, hei, hen2] at HVq hV hen
      rw [hev] at HVh hV hen
      have c0 := cell_at HVq.out 0
      have c1 := cell_at HVq.out 1
      have c2 := cell_at HVq.out 2
      have h0 := cell_at HVh.out 0
      have HVQ : Hid (V.heap[Q]? = some (.cells #[.int .i64 sc, .int .i64 id] 64 (0, 0))) := (HBV.out.block Q (lt_block HA.out)).trans HA.out
      have t0 := cell_at HVQ.out 0
      have t1 := cell_at HVQ.out 1
      clear hes hei hen2 hev av0 av hrg1 hg1 hb1 ho1 hin hkey hleft hlt hhas hs1 hbv
      have HSx : Hid (∀ X, Below V.heap.size V X → X.cell? ⟨q, 0, none⟩ = some (.int .i64 es) ∧ X.cell? ⟨q, 1, none⟩ = some (.int .i64 ei) ∧ X.cell? ⟨q, 2, none⟩ = some (.string en) ∧ X.cell? ⟨q + 1, 0, none⟩ = some (.string ev)) := fun X hX => ⟨cell_at (kpO hX HVq.out) 0, cell_at (kpO hX HVq.out) 1, cell_at (kpO hX HVq.out) 2, cell_at (kpO hX HVh.out) 0⟩
      have HBv := hidK (Below.refl V.heap.size V)
      by_cases hoff : es = sc ∧ ei = id
      · have HOf : Hid (e.sc = sc ∧ e.id = id) := ⟨HEe.out.1.trans hoff.1, HEe.out.2.1.trans hoff.2⟩
        have HEq : Hid ((⟨sc, id, en, ev⟩ : Ent) = e) := by
          show _ = _
          obtain ⟨z1, z2, z3, z4⟩ := HEe.out
          rw [← HOf.out.1, ← HOf.out.2, ← z3, ← z4]
        obtain ⟨q1, q2⟩ := hoff
        have e1 : (es == sc) = true := by simpa using q1
        have e2 : (ei == id) = true := by simpa using q2
        clear q1 q2
        go_upto_region 7 with fail
        refine wp_region_held_drew (S := (fun X => X.cell? ⟨q, 0, none⟩ = some (.int .i64 es) ∧ X.cell? ⟨q, 1, none⟩ = some (.int .i64 ei) ∧ X.cell? ⟨q, 2, none⟩ = some (.string en) ∧ X.cell? ⟨q + 1, 0, none⟩ = some (.string ev))) (by kernel_rfl) ?sA (fun hHeld => ?_)
        case sA => ((try dsimp only); first | exact HSx.out _ (by first | exact HBv.out | exact HBv.out.drew | exact HBv.out.alloc HBv.out.size _) | exact HSy.out)
        have HBn := hidK HBv.out.drew
        clear HBv
        have HBv := hidK HBn.out
        clear HBn
        refine wpAnyH_take (i := 0) (oi := { dst := some 28, op := Op.move (Operand.tmp 8), type := 32, pos := "options.go:161", after := #[], guard := none }) (v := ?vA0n1) rfl (by kernel_rfl) (by kernel_rfl) (by kernel_rfl) (fun _ _ _ h => h) (Or.inl ⟨by rfl, ?yA0n1⟩) (by assumption) ?rA0n1
        case yA0n1 => (intro w hSw; (try dsimp only at hSw); first | (go_simp; done) | (go_simp; with_reducible rfl))
        try simp only [Act.put, List.setIfInBounds_toArray, List.set_cons_zero, List.set_cons_succ]
        refine wpAnyH_take (i := 1) (oi := { dst := some 29, op := Op.move (Operand.tmp 1), type := 3, pos := "options.go:161", after := #[], guard := none }) (v := ?vA1n2) rfl (by kernel_rfl) (by kernel_rfl) (by kernel_rfl) (fun _ _ _ h => h) (Or.inl ⟨by rfl, ?yA1n2⟩) (by assumption) ?rA1n2
        case yA1n2 => (intro w hSw; (try dsimp only at hSw); first | (go_simp; done) | (go_simp; with_reducible rfl))
        try simp only [Act.put, List.setIfInBounds_toArray, List.set_cons_zero, List.set_cons_succ]
        refine wpAnyH_take (i := 2) (oi := { dst := some 30, op := Op.move (Operand.tmp 2), type := 3, pos := "options.go:161", after := #[], guard := none }) (v := ?vA2n3) rfl (by kernel_rfl) (by kernel_rfl) (by kernel_rfl) (fun _ _ _ h => h) (Or.inl ⟨by rfl, ?yA2n3⟩) (by assumption) ?rA2n3
        case yA2n3 => (intro w hSw; (try dsimp only at hSw); first | (go_simp; done) | (go_simp; with_reducible rfl))
        try simp only [Act.put, List.setIfInBounds_toArray, List.set_cons_zero, List.set_cons_succ]
        refine wpAnyH_take (i := 3) (oi := { dst := some 31, op := Op.fieldAddr 69 (Operand.tmp 9) 1, type := 0, pos := "options.go:161", after := #[], guard := none }) (v := ?vA3n4) rfl (by kernel_rfl) (by kernel_rfl) (by kernel_rfl) (fun _ _ _ h => h) (Or.inl ⟨by rfl, ?yA3n4⟩) (by assumption) ?rA3n4
        case yA3n4 => (intro w hSw; (try dsimp only at hSw); first | (go_simp; done) | (go_simp; with_reducible rfl))
        try simp only [Act.put, List.setIfInBounds_toArray, List.set_cons_zero, List.set_cons_succ]
        refine wpAnyH_take (i := 4) (oi := { dst := some 32, op := Op.load 9 (Operand.tmp 31), type := 9, pos := "options.go:161", after := #[{ on := 3, ground := Ground.data }], guard := none }) (v := ?vA4n5) rfl (by kernel_rfl) (by kernel_rfl) (by kernel_rfl) (fun _ _ _ h => h) (Or.inl ⟨by rfl, ?yA4n5⟩) (by assumption) ?rA4n5
        case yA4n5 => (intro w hSw; (try dsimp only at hSw); first | (go_simp; done) | (go_simp; with_reducible rfl))
        try simp only [Act.put, List.setIfInBounds_toArray, List.set_cons_zero, List.set_cons_succ]
        refine wpAnyH_take (i := 6) (oi := { dst := some 34, op := Op.fieldAddr 66 (Operand.tmp 10) 0, type := 0, pos := "options.go:161", after := #[], guard := none }) (v := ?vA6n6) rfl (by kernel_rfl) (by kernel_rfl) (by kernel_rfl) (fun _ _ _ h => h) (Or.inl ⟨by rfl, ?yA6n6⟩) (by assumption) ?rA6n6
        case yA6n6 => (intro w hSw; (try dsimp only at hSw); first | (go_simp; done) | (go_simp; with_reducible rfl))
        try simp only [Act.put, List.setIfInBounds_toArray, List.set_cons_zero, List.set_cons_succ]
        refine wpAnyH_take (i := 7) (oi := { dst := some 35, op := Op.load 9 (Operand.tmp 34), type := 9, pos := "options.go:161", after := #[{ on := 6, ground := Ground.data }], guard := none }) (v := ?vA7n7) rfl (by kernel_rfl) (by kernel_rfl) (by kernel_rfl) (fun _ _ _ h => h) (Or.inl ⟨by rfl, ?yA7n7⟩) (by assumption) ?rA7n7
        case yA7n7 => (intro w hSw; (try dsimp only at hSw); first | (go_simp; done) | (go_simp; with_reducible rfl))
        try simp only [Act.put, List.setIfInBounds_toArray, List.set_cons_zero, List.set_cons_succ]
        refine wpAnyH_ready (rs := [5]) (by kernel_rfl) (by simp) (AllReadyH.cons (o := { dst := some 33, op := Op.call { callee := Callee.value (Operand.func 23), args := #[Operand.tmp 32], argTypes := #[9] }, type := 9, pos := "options.go:164", after := #[{ on := 4, ground := Ground.data }], guard := none }) rfl (fun K hK => ?bAn8q0) AllReadyH.nil)
        go_simp
        go_wp2_with (refine (HCn.out _).mono ?_; rintro q5 Y1 ⟨rfl, hb5⟩; have HBn := hidK (bst HBv.out hb5); clear hb5 HBv; have HBv := hidK HBn.out; clear HBn)
        refine hK.out _ _ ?kAn8o5 (fun hHeld8 => ?_)
        case kAn8o5 => ((try dsimp only); first | exact HSx.out _ (by first | exact HBv.out | exact HBv.out.drew | exact HBv.out.alloc HBv.out.size _) | exact HSy.out)
        clear hK K
        try simp only [Act.put, List.setIfInBounds_toArray, List.set_cons_zero, List.set_cons_succ]
        refine wpAnyH_ready (rs := [8]) (by kernel_rfl) (by simp) (AllReadyH.cons (o := { dst := some 36, op := Op.call { callee := Callee.value (Operand.func 23), args := #[Operand.tmp 35], argTypes := #[9] }, type := 9, pos := "options.go:165", after := #[{ on := 7, ground := Ground.data }, { on := 5, ground := Ground.chain }], guard := none }) rfl (fun K hK => ?bAn9q0) AllReadyH.nil)
        go_simp
        go_wp2_with (refine (HCv.out _).mono ?_; rintro q8 Y2 ⟨rfl, hb8⟩; have HBn := hidK (bst HBv.out hb8); clear hb8 HBv; have HBv := hidK HBn.out; clear HBn)
        refine hK.out _ _ ?kAn9o8 (fun hHeld9 => ?_)
        case kAn9o8 => ((try dsimp only); first | exact HSx.out _ (by first | exact HBv.out | exact HBv.out.drew | exact HBv.out.alloc HBv.out.size _) | exact HSy.out)
        clear hK K
        try simp only [Act.put, List.setIfInBounds_toArray, List.set_cons_zero, List.set_cons_succ]
        refine wpAnyH_take (i := 9) (oi := { dst := some 37, op := Op.build 87 #[(0, Operand.tmp 29), (1, Operand.tmp 30), (2, Operand.tmp 33), (3, Operand.tmp 36)], type := 87, pos := "options.go:161", after := #[{ on := 1, ground := Ground.data }, { on := 2, ground := Ground.data }, { on := 5, ground := Ground.data }, { on := 8, ground := Ground.data }], guard := none }) (v := ?vA9n10) rfl (by kernel_rfl) (by kernel_rfl) (by kernel_rfl) (fun _ _ _ h => h) (Or.inl ⟨by rfl, ?yA9n10⟩) (by assumption) ?rA9n10
        case yA9n10 => (intro w hSw; (try dsimp only at hSw); first | (go_simp; done) | (go_simp; with_reducible rfl))
        try simp only [Act.put, List.setIfInBounds_toArray, List.set_cons_zero, List.set_cons_succ]
        refine wpAnyH_ready (rs := [10]) (by kernel_rfl) (by simp) (AllReadyH.cons (o := { dst := some 38, op := Op.buildSlice 32 1 #[(0, Operand.tmp 37)], type := 32, pos := "options.go:161", after := #[{ on := 9, ground := Ground.data }], guard := none }) rfl (fun K hK => ?bAn11q0) AllReadyH.nil)
        go_simp
        refine hK.out _ _ ?kAn11o10 (fun hHeld11 => ?_)
        case kAn11o10 => ((try dsimp only); first | exact HSx.out _ (by first | exact HBv.out | exact HBv.out.drew | exact HBv.out.alloc HBv.out.size _) | exact HSy.out)
        clear hK K
        skip
        try simp only [Act.put, List.setIfInBounds_toArray, List.set_cons_zero, List.set_cons_succ]
        refine wpAnyH_ready (rs := [11]) (by kernel_rfl) (by simp) (AllReadyH.cons (o := { dst := some 39, op := Op.call { callee := Callee.builtin Builtin.append, args := #[Operand.tmp 28, Operand.tmp 38], argTypes := #[32, 32] }, type := 32, pos := "options.go:161", after := #[{ on := 0, ground := Ground.data }, { on := 10, ground := Ground.data }, { on := 8, ground := Ground.chain }], guard := none }) rfl (fun K hK => ?bAn12q0) AllReadyH.nil)
        refine step_append_ent _ rfl (.tmp 28) (.tmp 38) rfl (W.heap.size + 1) _ l ?hs1 (HOV.out.below (HBv.out.alloc HBv.out.size _)) Y2.heap.size ⟨sc, id, en, ev⟩ ?hx1 (heap_alloc_new Y2 _) ?x1 ?x2 ?_
        case hs1 => rfl
        case hx1 => rfl
        case x1 => (have h9 := HLn.out; omega)
        case x2 => (have h1 := HSz.out; have h2 := HBv.out.size; simp; omega)
        intro v6 w6 ho6
        have HBa := hidK (HBv.out.alloc HBv.out.size (.cells (encE ⟨sc, id, en, ev⟩).toArray 87))
        have hnb : ∀ g, u8.ownBlock = some g → W.heap.size + 1 ≤ g := fun g hg => (HOV.out.blk hg).1
        have k1 := (ho6.out.2.block q (Nat.lt_of_lt_of_le (lt_block HVq.out) HBa.out.size) (fun z => by obtain ⟨_, cur, hk⟩ := HOV.out.blk z.symm; rw [HVq.out] at hk; cases hk)).trans ((HBa.out.block q (lt_block HVq.out)).trans HVq.out)
        have k2 := (ho6.out.2.block (q + 1) (Nat.lt_of_lt_of_le (lt_block HVh.out) HBa.out.size) (fun z => by obtain ⟨_, cur, hk⟩ := HOV.out.blk z.symm; rw [HVh.out] at hk; cases hk)).trans ((HBa.out.block (q + 1) (lt_block HVh.out)).trans HVh.out)
        have hr6 := (HRg.out _ none (grown_below HBa.out) (by simp) (by simp)).kept ho6.out.2 (fun z => by have h1 := hnb b z.symm; have h2 := HbW.out; omega) (fun z => by have h1 := hnb _ z.symm; omega)
        have HR6 := hidK hr6
        have HB6 : Hid (Below W.heap.size W w6) := (bst HBV.out HBa.out).grown ho6.out.2 (bst HBV.out HBa.out).size (fun j hj => by have := hnb j hj; omega)
        clear hr6 hnb
        have HSy : Hid (w6.cell? ⟨q, 0, none⟩ = some (.int .i64 es) ∧ w6.cell? ⟨q, 1, none⟩ = some (.int .i64 ei) ∧ w6.cell? ⟨q, 2, none⟩ = some (.string en) ∧ w6.cell? ⟨q + 1, 0, none⟩ = some (.string ev)) := ⟨cell_at k1 0, cell_at k1 1, cell_at k1 2, cell_at k2 0⟩
        clear k1 k2
        refine hK.out _ _ ?kAn12o11 (fun hHeld12 => ?_)
        case kAn12o11 => ((try dsimp only); first | exact HSx.out _ (by first | exact HBv.out | exact HBv.out.drew | exact HBv.out.alloc HBv.out.size _) | exact HSy.out)
        clear hK K
        try simp only [Act.put, List.setIfInBounds_toArray, List.set_cons_zero, List.set_cons_succ]
        refine wpAnyH_take (i := 12) (oi := { dst := some 8, op := Op.assign (Operand.tmp 39), type := 32, pos := "options.go:161", after := #[{ on := 11, ground := Ground.data }, { on := 11, ground := Ground.chain }, { on := 0, ground := Ground.phase }, { on := 1, ground := Ground.phase }, { on := 2, ground := Ground.phase }, { on := 3, ground := Ground.phase }, { on := 4, ground := Ground.phase }, { on := 5, ground := Ground.phase }, { on := 6, ground := Ground.phase }, { on := 7, ground := Ground.phase }, { on := 8, ground := Ground.phase }, { on := 9, ground := Ground.phase }, { on := 10, ground := Ground.phase }, { on := 11, ground := Ground.phase }], guard := none }) (v := ?vA12n13) rfl (by kernel_rfl) (by kernel_rfl) (by kernel_rfl) (fun _ _ _ h => h) (Or.inl ⟨by rfl, ?yA12n13⟩) (by assumption) ?rA12n13
        case yA12n13 => (intro w hSw; (try dsimp only at hSw); first | (go_simp; done) | (go_simp; with_reducible rfl))
        try simp only [Act.put, List.setIfInBounds_toArray, List.set_cons_zero, List.set_cons_succ]
        refine wpAnyH_done (by kernel_rfl) ?_ _
        go_wp2_with fail
        exact ⟨⟨_, _, _, hidK (HL.out.more HIn.out HOf.out HLe.out HR6.out HB6.out (by have h := ho6.out.1; rw [HEq.out] at h; exact h))⟩, by have h1 := HLt.out; have h2 := HR6.out.left_eq; omega⟩
      · have HOf : Hid (¬ (e.sc = sc ∧ e.id = id)) := fun z => hoff ⟨HEe.out.1.symm.trans z.1, HEe.out.2.1.symm.trans z.2⟩
        by_cases q1 : es = sc
        · have e1 : (es == sc) = true := by simpa using q1
          have e2 : (ei == id) = false := by simpa using fun z => hoff ⟨q1, z⟩
          clear hoff q1
          go_wp2_with fail
          exact ⟨⟨_, _, _, hidK (HL.out.skip HIn.out HOf.out (HRg.out V none (grown_below (Below.refl _ _)) (by simp) (by simp)) HBV.out HOV.out)⟩, by have h1 := HLt.out; have h2 := (HRg.out V none (grown_below (Below.refl _ _)) (by simp) (by simp)).left_eq; omega⟩
        · have e1 : (es == sc) = false := by simpa using q1
          clear hoff q1
          go_wp2_with fail
          exact ⟨⟨_, _, _, hidK (HL.out.skip HIn.out HOf.out (HRg.out V none (grown_below (Below.refl _ _)) (by simp) (by simp)) HBV.out HOV.out)⟩, by have h1 := HLt.out; have h2 := (HRg.out V none (grown_below (Below.refl _ _)) (by simp) (by simp)).left_eq; omega⟩
end Go.Proofs.YtgdkpmfdpfjdjaaGreatDoor
