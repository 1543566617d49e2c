/-
  Buffers: a buffer laid on the stack; one taken away.
-/
import Derived.Test.YtgbaeajcgiaboaaDoorUFre
namespace Go.Proofs.YtgbaeajcgiaboaaDoor
open Go.RowKit
set_option linter.unusedVariables false
set_option maxRecDepth 100000

/-- What a step leaves: the buffers' own block and the stack's turn, nothing else; the stack may lie in a new block. -/
structure Stp (w w' : World) (b : Nat) (v v' : Value) : Prop where
  but : But (b :: v.ownBlock.toList) w w'
  own : ∀ g, v'.ownBlock = some g → v.ownBlock = some g ∨ w.heap.size ≤ g
theorem Stp.refl (w : World) (b : Nat) (v : Value) : Stp w w b v v := ⟨But.refl _ _, fun g h => .inl h⟩
theorem Stp.trans {w X Y : World} {b : Nat} {v v1 v2 : Value} (h : Stp w X b v v1) (k : Stp X Y b v1 v2) (hb : b < w.heap.size) : Stp w Y b v v2 :=
  ⟨⟨k.but.os.trans h.but.os, k.but.tape.trans h.but.tape, k.but.output.trans h.but.output, Nat.le_trans h.but.size k.but.size, fun q hq hs => by
    refine (k.but.block q (Nat.lt_of_lt_of_le hq h.but.size) fun hh => ?_).trans (h.but.block q hq hs)
    rcases List.mem_cons.1 hh with e | e
    · exact hs (by rw [e]; simp)
    · have e' : v1.ownBlock = some q := by simpa using e
      rcases h.own q e' with z | z
      · exact hs (by rw [z]; simp)
      · omega⟩, fun g hg => by
    rcases k.own g hg with z | z
    · exact h.own g z
    · exact .inr (Nat.le_trans h.but.size z)⟩
theorem Stp.ahead {w X Y : World} {b : Nat} {v v' : Value} (hb : Below w.heap.size w X) (k : Stp X Y b v v') : Stp w Y b v v' :=
  ⟨(But.of hb).trans k.but, fun g hg => (k.own g hg).elim .inl fun z => .inr (Nat.le_trans hb.size z)⟩
theorem Stp.behind {w X Y : World} {b : Nat} {v v' : Value} (k : Stp w X b v v') (hb : Below X.heap.size X Y) : Stp w Y b v v' :=
  ⟨k.but.trans (But.of hb), k.own⟩
theorem Stp.ofTrn {w X : World} {b : Nat} {v v' : Value} (h : Trn w X v v') (hb : b < w.heap.size) (u : Value) (i : Nat) : Stp w (X.setCell ⟨b, i, none⟩ u) b v v' :=
  ⟨(h.but.mono fun k _ hk => List.mem_cons_of_mem _ hk).setCell (p := ⟨b, i, none⟩) (.inl (by simp)) u, h.own⟩
theorem Stp.cell {w X : World} {b : Nat} {v v' : Value} (h : Stp w X b v v') (u : Value) (i : Nat) : Stp w (X.setCell ⟨b, i, none⟩ u) b v v' :=
  ⟨h.but.setCell (p := ⟨b, i, none⟩) (.inl (by simp)) u, h.own⟩
theorem KpsAt.sl {w : World} {v : Value} {l : List Kp} (h : KpsAt w v l) : ∃ a n p, v = .slice a n p := by
  obtain ⟨ad, cp, e, _⟩ := h.shape
  exact ⟨_, _, _, e⟩
/-- The stack is turned, and stored. -/
theorem Bf.turnB {w X : World} {b : Nat} {v v' : Value} {l l' : List Kp} {lim c : Int} (h : Bf w b v l lim c) (ht : But v.ownBlock.toList w X) (hk : KpsAt X v' l') : Bf (X.setCell ⟨b, 0, none⟩ v') b v' l' lim c := by
  have hX : X.heap[b]? = some (.cells #[v, .int .i64 lim, .int .i64 c] 45 (0, 0)) := (ht.block b h.lt (fun hh => by
    have : v.ownBlock = some b := by simpa using hh
    exact h.ne b this rfl)).trans h.hd
  refine ⟨put_at hX 0 _, Row.keep hk fun g hg => put_other rfl (fun e => ?_) 0 _⟩
  subst e
  obtain ⟨cur, h1⟩ := Row.block hk hg
  rw [hX] at h1
  cases h1
theorem Bf.turn {w X : World} {b : Nat} {v v' : Value} {l l' : List Kp} {lim c : Int} (h : Bf w b v l lim c) (ht : Trn w X v v') (hk : KpsAt X v' l') : Bf (X.setCell ⟨b, 0, none⟩ v') b v' l' lim c := h.turnB ht.but hk
set_option maxHeartbeats 8000000 in
theorem take_any {w : World} {b : Nat} {v : Value} {l : List Kp} {lim c : Int} (h : Bf w b v l lim c) (i : Nat) (hi : i < l.length) (hlen : l.length ≤ 1000000) :
    Calls Tryd.prog 37 #[.pointer (some ⟨b, 0, none⟩), .int .i64 (i : Int)] w fun e w' => e = .returned (.tuple #[]) ∧ ∃ v', Bf w' b v' (l.eraseIdx i) lim c ∧ Stp w w' b v v' := by
  have HC := hidK (delete_any h.row i hi hlen)
  have HH := hidK h
  have c0 : w.cell? ⟨b, 0, none⟩ = some v := cell_at h.hd 0
  have hwr : IntKind.i64.wrap ((i : Int) + 1) = (i : Int) + 1 := by rw [IntKind.wrap_i64]; omega
  have hlt := h.lt
  obtain ⟨ad, cp, rfl⟩ := h.slice
  have hi63 : (i : Int) ≤ 1000000 := by omega
  clear h hlen hi
  go_enter Tryd.func37, Tryd.ntmps37
  go_wp2_with fail
  refine HC.out.mono ?_
  rintro e w1 ⟨v', rfl, hk, ht⟩
  have d1 : w1.heap[b]? = some (.cells #[.slice ad l.length cp, .int .i64 lim, .int .i64 c] 45 (0, 0)) := (ht.but.block b hlt (fun hh => by
    have : (Value.slice ad l.length cp).ownBlock = some b := by simpa using hh
    exact HH.out.ne b this rfl)).trans HH.out.hd
  have c1 : w1.cell? ⟨b, 0, none⟩ = some (.slice ad l.length cp) := cell_at d1 0
  have c2 : w1.frozen? ⟨b, 0, none⟩ = false := free_at d1 0
  have HB := hidK (HH.out.turn ht hk)
  have HS := hidK (Stp.ofTrn ht hlt v' 0)
  obtain ⟨a2, n2, p2, rfl⟩ := hk.sl
  clear hk ht d1
  go_wp2_with fail
  first | (refine bodyPost_ret (results_none rfl _ _ _) rfl ?_) | (refine bodyPost_end (results_none rfl _ _ _) rfl ?_)
  exact ⟨rfl, _, HB.out, HS.out⟩
set_option maxHeartbeats 8000000 in
theorem push_any {w : World} {b : Nat} {v : Value} {l : List Kp} {lim c : Int} (h : Bf w b v l lim c) (xn xt : ByteArray) (xa : Bool) (h1 : xn.size ≤ 140737488355328) (h2 : xt.size ≤ 140737488355328) (hlen : l.length ≤ 1000000) :
    Calls Tryd.prog 42 #[.pointer (some ⟨b, 0, none⟩), .agg #[.string xn, .string xt, .bool xa]] w fun e w' => e = .returned (.tuple #[]) ∧ ∃ v', Bf w' b v' (⟨xn, xt, xa⟩ :: l) lim c ∧ Stp w w' b v v' := by
  obtain ⟨Q1, hQ1⟩ : ∃ Q, w.heap.size = Q := ⟨_, rfl⟩
  obtain ⟨W1, hW1⟩ : ∃ W, w.alloc (.cells #[.string xn, .string xt, .bool xa] 54) = W := ⟨_, rfl⟩
  have a1 : W1.heap[Q1]? = some (.cells #[.string xn, .string xt, .bool xa] 54 (0, 0)) := by rw [← hW1, ← hQ1]; exact heap_alloc_new w _
  have b1 : Below w.heap.size w W1 := by rw [← hW1]; exact (Below.refl _ _).alloc (Nat.le_refl _) _
  have s1 : W1.heap.size = Q1 + 1 := by rw [← hW1, ← hQ1]; simp
  have HF := hidK (fresh_any xn xt W1 h1 h2)
  have x0 := cell_at a1 0
  have x1 := cell_at a1 1
  have HW := hidK (And.intro b1 (And.intro hQ1 s1))
  have HA := hidK a1
  have HH := hidK h
  have hlt := h.lt
  obtain ⟨ad, cp, rfl⟩ := h.slice
  clear a1 b1 s1 h h1 h2
  go_enter Tryd.func42, Tryd.ntmps42
  go_wp2_with fail
  refine HF.out.mono ?_
  rintro e w2 ⟨rfl, hb2⟩
  have a2 : w2.heap[Q1]? = some (.cells #[.string xn, .string xt, .bool xa] 54 (0, 0)) := (hb2.block Q1 (by have := HW.out.2.2; omega)).trans HA.out
  have y0 := cell_at a2 0
  have y1 := cell_at a2 1
  have z0 := free_at a2 0
  have z1 := free_at a2 1
  have HB2 := hidK (below_step2 HW.out.1 hb2 (by have := HW.out.2.2; have := HW.out.2.1; omega))
  have HA2 := hidK a2
  clear hb2 a2
  go_wp2_with fail
  refine gen_wp (fun Y => Below w.heap.size w Y ∧ Y.heap[Q1]? = some (.cells #[.string xn, .string xt, .bool xa] 54 (0, 0))) ?g1 ?_
  case g1 => exact ⟨(HB2.out.setCell (by have := HW.out.2.1; simp; omega) _).setCell (by have := HW.out.2.1; simp; omega) _, put_at (put_at HA2.out 0 _) 1 _⟩
  rintro Y ⟨hy1, hy2⟩
  obtain ⟨Z, hZ⟩ : ∃ Z, Y.drew.alloc (.cells #[.string xn, .string xt, .bool xa] 54) = Z := ⟨_, rfl⟩
  obtain ⟨Q2, hQ2⟩ : ∃ Q, Y.heap.size = Q := ⟨_, rfl⟩
  have hz1 : Below Y.heap.size Y Z := by rw [← hZ]; exact ((Below.refl _ _).drew).alloc (Nat.le_refl _) _
  have hz2 : Z.heap[Q2]? = some (.cells #[.string xn, .string xt, .bool xa] 54 (0, 0)) := by rw [← hZ, ← hQ2]; exact heap_alloc_new Y.drew _
  have hBY := HH.out.below hy1
  have hBZ := hBY.below hz1
  have HC := hidK (insert_any hBZ.row hlen ⟨xn, xt, xa⟩ (vb := Q2) (by simpa [encK] using hz2) (fun g hg e => by have := (Row.lt hBY.row) g hg; omega))
  have HBZ := hidK hBZ
  have HLZ := hidK (below_step hy1 hz1)
  have q0 : Y.cell? ⟨b, 0, none⟩ = some _ := cell_at hBY.hd 0
  have q1 := cell_at hy2 0
  have q2 := cell_at hy2 1
  have q3 := cell_at hy2 2
  have r0 : Z.cell? ⟨b, 0, none⟩ = some _ := cell_at hBZ.hd 0
  have e0 : ∀ o, ((World.drew Y).alloc o).cell? ⟨b, 0, none⟩ = some (.slice ad l.length cp) := fun o => Lib.cell?_alloc_some o q0
  clear hy1 hy2 hz1 hz2 hBY hBZ HB2 HA2 HF HA x0 x1 y0 y1 z0 z1
  refine wp_region_any (by kernel_rfl) ?_
  try (change wpAny _ _ _ _ _ _ _ (World.drew _))
  refine wpAny_take (i := 0) (oi := { dst := some 8, op := Op.move (Operand.tmp 0), type := 23, pos := "buffers.go:91", after := #[], guard := none }) (v := ?vP0n1) rfl (by kernel_rfl) (by kernel_rfl) (by kernel_rfl) (fun _ _ _ h => h) (Or.inl ⟨by rfl, ?yP0n1⟩) ?rP0n1
  case yP0n1 => (intro w; first | (go_simp; done) | (go_simp; with_reducible rfl))
  try simp only [Act.put, List.setIfInBounds_toArray, List.set_cons_zero, List.set_cons_succ]
  refine wpAny_take (i := 1) (oi := { dst := some 9, op := Op.move (Operand.tmp 0), type := 23, pos := "buffers.go:91", after := #[], guard := none }) (v := ?vP1n2) rfl (by kernel_rfl) (by kernel_rfl) (by kernel_rfl) (fun _ _ _ h => h) (Or.inl ⟨by rfl, ?yP1n2⟩) ?rP1n2
  case yP1n2 => (intro w; first | (go_simp; done) | (go_simp; with_reducible rfl))
  try simp only [Act.put, List.setIfInBounds_toArray, List.set_cons_zero, List.set_cons_succ]
  refine wpAny_take (i := 2) (oi := { dst := some 10, op := Op.nilCheck (Operand.tmp 9), type := 0, pos := "buffers.go:91", after := #[{ on := 1, ground := Ground.data }], guard := none }) (v := ?vP2n3) rfl (by kernel_rfl) (by kernel_rfl) (by kernel_rfl) (fun _ _ _ h => h) (Or.inl ⟨by rfl, ?yP2n3⟩) ?rP2n3
  case yP2n3 => (intro w; first | (go_simp; done) | (go_simp; with_reducible rfl))
  try simp only [Act.put, List.setIfInBounds_toArray, List.set_cons_zero, List.set_cons_succ]
  refine wpAny_take (i := 3) (oi := { dst := some 11, op := Op.fieldAddr 45 (Operand.tmp 10) 0, type := 0, pos := "buffers.go:91", after := #[{ on := 2, ground := Ground.data }], guard := none }) (v := ?vP3n4) rfl (by kernel_rfl) (by kernel_rfl) (by kernel_rfl) (fun _ _ _ h => h) (Or.inl ⟨by rfl, ?yP3n4⟩) ?rP3n4
  case yP3n4 => (intro w; first | (go_simp; done) | (go_simp; with_reducible rfl))
  try simp only [Act.put, List.setIfInBounds_toArray, List.set_cons_zero, List.set_cons_succ]
  refine wpAny_ready (rs := [4, 5]) (by kernel_rfl) (by simp) (AllReady.cons (o := { dst := some 12, op := Op.load 43 (Operand.tmp 11), type := 43, pos := "buffers.go:91", after := #[{ on := 3, ground := Ground.data }], guard := none }) rfl (fun K hK => ?bPn5q0) (AllReady.cons (o := { dst := some 13, op := Op.load 54 (Operand.tmp 3), type := 54, pos := "buffers.go:91", after := #[], guard := none }) rfl (fun K hK => ?bPn5q1) AllReady.nil))
  case bPn5q0 =>
    go_simp
    first | (refine hK _ _ ?_; clear hK K) | skip
    skip
    try simp only [Act.put, List.setIfInBounds_toArray, List.set_cons_zero, List.set_cons_succ]
    refine wpAny_ready (rs := [5]) (by kernel_rfl) (by simp) (AllReady.cons (o := { dst := some 13, op := Op.load 54 (Operand.tmp 3), type := 54, pos := "buffers.go:91", after := #[], guard := none }) rfl (fun K hK => ?bPn6q0) AllReady.nil)
    go_simp
    first | (refine hK _ _ ?_; clear hK K) | skip
    skip
    try simp only [Act.put, List.setIfInBounds_toArray, List.set_cons_zero, List.set_cons_succ]
    refine wpAny_ready (rs := [6]) (by kernel_rfl) (by simp) (AllReady.cons (o := { dst := some 14, op := Op.buildSlice 43 1 #[(0, Operand.tmp 13)], type := 43, pos := "buffers.go:91", after := #[{ on := 5, ground := Ground.data }], guard := none }) rfl (fun K hK => ?bPn7q0) AllReady.nil)
    go_simp
    first | (refine hK _ _ ?_; clear hK K) | skip
    skip
    try simp only [Act.put, List.setIfInBounds_toArray, List.set_cons_zero, List.set_cons_succ]
    refine wpAny_ready (rs := [7]) (by kernel_rfl) (by simp) (AllReady.cons (o := { dst := some 15, op := Op.call { callee := Callee.value (Operand.func 60), args := #[Operand.tmp 12, Operand.const (Value.int IntKind.i64 0), Operand.tmp 14], argTypes := #[43, 3, 43] }, type := 43, pos := "buffers.go:91", after := #[{ on := 4, ground := Ground.data }, { on := 6, ground := Ground.data }], guard := none }) rfl (fun K hK => ?bPn8q0) AllReady.nil)
    go_simp
    go_wp2_with (refine HC.out.mono ?_; rintro e w5 ⟨v', rfl, hk, ht⟩; have hT := HBZ.out.turn ht hk; have HS5 := hidK (Stp.ahead HLZ.out (Stp.ofTrn ht HBZ.out.lt v' 0)); have HB5 := hidK hT; have d5 : w5.heap[b]? = some (.cells #[.slice ad l.length cp, .int .i64 lim, .int .i64 c] 45 (0, 0)) := (ht.but.block b HBZ.out.lt (fun hh => HBZ.out.ne b (by simpa using hh) rfl)).trans HBZ.out.hd; have c5 : w5.cell? ⟨b, 0, none⟩ = some (.slice ad l.length cp) := cell_at d5 0; have f5 : w5.frozen? ⟨b, 0, none⟩ = false := free_at d5 0; obtain ⟨a5, n5, p5, rfl⟩ := hk.sl; clear hk ht d5 hT)
    first | (refine hK _ _ ?_; clear hK K) | skip
    try simp only [Act.put, List.setIfInBounds_toArray, List.set_cons_zero, List.set_cons_succ]
    refine wpAny_take (i := 8) (oi := { dst := some 16, op := Op.nilCheck (Operand.tmp 8), type := 0, pos := "buffers.go:91", after := #[{ on := 0, ground := Ground.data }, { on := 0, ground := Ground.phase }, { on := 1, ground := Ground.phase }, { on := 2, ground := Ground.phase }, { on := 3, ground := Ground.phase }, { on := 4, ground := Ground.phase }, { on := 5, ground := Ground.phase }, { on := 6, ground := Ground.phase }, { on := 7, ground := Ground.phase }], guard := none }) (v := ?vP8n9) rfl (by kernel_rfl) (by kernel_rfl) (by kernel_rfl) (fun _ _ _ h => h) (Or.inl ⟨by rfl, ?yP8n9⟩) ?rP8n9
    case yP8n9 => (intro w; first | (go_simp; done) | (go_simp; with_reducible rfl))
    try simp only [Act.put, List.setIfInBounds_toArray, List.set_cons_zero, List.set_cons_succ]
    refine wpAny_take (i := 9) (oi := { dst := some 17, op := Op.fieldAddr 45 (Operand.tmp 16) 0, type := 0, pos := "buffers.go:91", after := #[{ on := 8, ground := Ground.data }, { on := 0, ground := Ground.phase }, { on := 1, ground := Ground.phase }, { on := 2, ground := Ground.phase }, { on := 3, ground := Ground.phase }, { on := 4, ground := Ground.phase }, { on := 5, ground := Ground.phase }, { on := 6, ground := Ground.phase }, { on := 7, ground := Ground.phase }], guard := none }) (v := ?vP9n10) rfl (by kernel_rfl) (by kernel_rfl) (by kernel_rfl) (fun _ _ _ h => h) (Or.inl ⟨by rfl, ?yP9n10⟩) ?rP9n10
    case yP9n10 => (intro w; first | (go_simp; done) | (go_simp; with_reducible rfl))
    try simp only [Act.put, List.setIfInBounds_toArray, List.set_cons_zero, List.set_cons_succ]
    refine wpAny_ready (rs := [10]) (by kernel_rfl) (by simp) (AllReady.cons (o := { dst := none, op := Op.store 43 (Operand.tmp 17) (Operand.tmp 15), type := 0, pos := "buffers.go:91", after := #[{ on := 9, ground := Ground.data }, { on := 7, ground := Ground.data }, { on := 7, ground := Ground.chain }, { on := 0, ground := Ground.phase }, { on := 1, ground := Ground.phase }, { on := 2, ground := Ground.phase }, { on := 3, ground := Ground.phase }, { on := 4, ground := Ground.phase }, { on := 5, ground := Ground.phase }, { on := 6, ground := Ground.phase }, { on := 7, ground := Ground.phase }], guard := none }) rfl (fun K hK => ?bPn11q0) AllReady.nil)
    go_simp
    first | (refine hK _ _ ?_; clear hK K) | skip
    skip
    try simp only [Act.put, List.setIfInBounds_toArray, List.set_cons_zero, List.set_cons_succ]
    refine wpAny_done (by kernel_rfl) ?_ _
    go_wp2_with fail
    first | (refine bodyPost_ret (results_none rfl _ _ _) rfl ?_) | (refine bodyPost_end (results_none rfl _ _ _) rfl ?_)
    exact ⟨rfl, _, HB5.out, HS5.out⟩
  case bPn5q1 =>
    go_simp
    first | (refine hK _ _ ?_; clear hK K) | skip
    skip
    try simp only [Act.put, List.setIfInBounds_toArray, List.set_cons_zero, List.set_cons_succ]
    refine wpAny_ready (rs := [4, 6]) (by kernel_rfl) (by simp) (AllReady.cons (o := { dst := some 12, op := Op.load 43 (Operand.tmp 11), type := 43, pos := "buffers.go:91", after := #[{ on := 3, ground := Ground.data }], guard := none }) rfl (fun K hK => ?bPn12q0) (AllReady.cons (o := { dst := some 14, op := Op.buildSlice 43 1 #[(0, Operand.tmp 13)], type := 43, pos := "buffers.go:91", after := #[{ on := 5, ground := Ground.data }], guard := none }) rfl (fun K hK => ?bPn12q1) AllReady.nil))
    case bPn12q0 =>
      go_simp
      first | (refine hK _ _ ?_; clear hK K) | skip
      skip
      try simp only [Act.put, List.setIfInBounds_toArray, List.set_cons_zero, List.set_cons_succ]
      refine wpAny_ready (rs := [6]) (by kernel_rfl) (by simp) (AllReady.cons (o := { dst := some 14, op := Op.buildSlice 43 1 #[(0, Operand.tmp 13)], type := 43, pos := "buffers.go:91", after := #[{ on := 5, ground := Ground.data }], guard := none }) rfl (fun K hK => ?bPn13q0) AllReady.nil)
      go_simp
      first | (refine hK _ _ ?_; clear hK K) | skip
      skip
      try simp only [Act.put, List.setIfInBounds_toArray, List.set_cons_zero, List.set_cons_succ]
      refine wpAny_ready (rs := [7]) (by kernel_rfl) (by simp) (AllReady.cons (o := { dst := some 15, op := Op.call { callee := Callee.value (Operand.func 60), args := #[Operand.tmp 12, Operand.const (Value.int IntKind.i64 0), Operand.tmp 14], argTypes := #[43, 3, 43] }, type := 43, pos := "buffers.go:91", after := #[{ on := 4, ground := Ground.data }, { on := 6, ground := Ground.data }], guard := none }) rfl (fun K hK => ?bPn14q0) AllReady.nil)
      go_simp
      go_wp2_with (refine HC.out.mono ?_; rintro e w5 ⟨v', rfl, hk, ht⟩; have hT := HBZ.out.turn ht hk; have HS5 := hidK (Stp.ahead HLZ.out (Stp.ofTrn ht HBZ.out.lt v' 0)); have HB5 := hidK hT; have d5 : w5.heap[b]? = some (.cells #[.slice ad l.length cp, .int .i64 lim, .int .i64 c] 45 (0, 0)) := (ht.but.block b HBZ.out.lt (fun hh => HBZ.out.ne b (by simpa using hh) rfl)).trans HBZ.out.hd; have c5 : w5.cell? ⟨b, 0, none⟩ = some (.slice ad l.length cp) := cell_at d5 0; have f5 : w5.frozen? ⟨b, 0, none⟩ = false := free_at d5 0; obtain ⟨a5, n5, p5, rfl⟩ := hk.sl; clear hk ht d5 hT)
      first | (refine hK _ _ ?_; clear hK K) | skip
      try simp only [Act.put, List.setIfInBounds_toArray, List.set_cons_zero, List.set_cons_succ]
      refine wpAny_take (i := 8) (oi := { dst := some 16, op := Op.nilCheck (Operand.tmp 8), type := 0, pos := "buffers.go:91", after := #[{ on := 0, ground := Ground.data }, { on := 0, ground := Ground.phase }, { on := 1, ground := Ground.phase }, { on := 2, ground := Ground.phase }, { on := 3, ground := Ground.phase }, { on := 4, ground := Ground.phase }, { on := 5, ground := Ground.phase }, { on := 6, ground := Ground.phase }, { on := 7, ground := Ground.phase }], guard := none }) (v := ?vP8n15) rfl (by kernel_rfl) (by kernel_rfl) (by kernel_rfl) (fun _ _ _ h => h) (Or.inl ⟨by rfl, ?yP8n15⟩) ?rP8n15
      case yP8n15 => (intro w; first | (go_simp; done) | (go_simp; with_reducible rfl))
      try simp only [Act.put, List.setIfInBounds_toArray, List.set_cons_zero, List.set_cons_succ]
      refine wpAny_take (i := 9) (oi := { dst := some 17, op := Op.fieldAddr 45 (Operand.tmp 16) 0, type := 0, pos := "buffers.go:91", after := #[{ on := 8, ground := Ground.data }, { on := 0, ground := Ground.phase }, { on := 1, ground := Ground.phase }, { on := 2, ground := Ground.phase }, { on := 3, ground := Ground.phase }, { on := 4, ground := Ground.phase }, { on := 5, ground := Ground.phase }, { on := 6, ground := Ground.phase }, { on := 7, ground := Ground.phase }], guard := none }) (v := ?vP9n16) rfl (by kernel_rfl) (by kernel_rfl) (by kernel_rfl) (fun _ _ _ h => h) (Or.inl ⟨by rfl, ?yP9n16⟩) ?rP9n16
      case yP9n16 => (intro w; first | (go_simp; done) | (go_simp; with_reducible rfl))
      try simp only [Act.put, List.setIfInBounds_toArray, List.set_cons_zero, List.set_cons_succ]
      refine wpAny_ready (rs := [10]) (by kernel_rfl) (by simp) (AllReady.cons (o := { dst := none, op := Op.store 43 (Operand.tmp 17) (Operand.tmp 15), type := 0, pos := "buffers.go:91", after := #[{ on := 9, ground := Ground.data }, { on := 7, ground := Ground.data }, { on := 7, ground := Ground.chain }, { on := 0, ground := Ground.phase }, { on := 1, ground := Ground.phase }, { on := 2, ground := Ground.phase }, { on := 3, ground := Ground.phase }, { on := 4, ground := Ground.phase }, { on := 5, ground := Ground.phase }, { on := 6, ground := Ground.phase }, { on := 7, ground := Ground.phase }], guard := none }) rfl (fun K hK => ?bPn17q0) AllReady.nil)
      go_simp
      first | (refine hK _ _ ?_; clear hK K) | skip
      skip
      try simp only [Act.put, List.setIfInBounds_toArray, List.set_cons_zero, List.set_cons_succ]
      refine wpAny_done (by kernel_rfl) ?_ _
      go_wp2_with fail
      first | (refine bodyPost_ret (results_none rfl _ _ _) rfl ?_) | (refine bodyPost_end (results_none rfl _ _ _) rfl ?_)
      exact ⟨rfl, _, HB5.out, HS5.out⟩
    case bPn12q1 =>
      go_simp
      first | (refine hK _ _ ?_; clear hK K) | skip
      skip
      try simp only [Act.put, List.setIfInBounds_toArray, List.set_cons_zero, List.set_cons_succ]
      refine wpAny_ready (rs := [4]) (by kernel_rfl) (by simp) (AllReady.cons (o := { dst := some 12, op := Op.load 43 (Operand.tmp 11), type := 43, pos := "buffers.go:91", after := #[{ on := 3, ground := Ground.data }], guard := none }) rfl (fun K hK => ?bPn18q0) AllReady.nil)
      go_simp
      first | (refine hK _ _ ?_; clear hK K) | skip
      skip
      try simp only [Act.put, List.setIfInBounds_toArray, List.set_cons_zero, List.set_cons_succ]
      refine wpAny_ready (rs := [7]) (by kernel_rfl) (by simp) (AllReady.cons (o := { dst := some 15, op := Op.call { callee := Callee.value (Operand.func 60), args := #[Operand.tmp 12, Operand.const (Value.int IntKind.i64 0), Operand.tmp 14], argTypes := #[43, 3, 43] }, type := 43, pos := "buffers.go:91", after := #[{ on := 4, ground := Ground.data }, { on := 6, ground := Ground.data }], guard := none }) rfl (fun K hK => ?bPn19q0) AllReady.nil)
      go_simp
      go_wp2_with (refine HC.out.mono ?_; rintro e w5 ⟨v', rfl, hk, ht⟩; have hT := HBZ.out.turn ht hk; have HS5 := hidK (Stp.ahead HLZ.out (Stp.ofTrn ht HBZ.out.lt v' 0)); have HB5 := hidK hT; have d5 : w5.heap[b]? = some (.cells #[.slice ad l.length cp, .int .i64 lim, .int .i64 c] 45 (0, 0)) := (ht.but.block b HBZ.out.lt (fun hh => HBZ.out.ne b (by simpa using hh) rfl)).trans HBZ.out.hd; have c5 : w5.cell? ⟨b, 0, none⟩ = some (.slice ad l.length cp) := cell_at d5 0; have f5 : w5.frozen? ⟨b, 0, none⟩ = false := free_at d5 0; obtain ⟨a5, n5, p5, rfl⟩ := hk.sl; clear hk ht d5 hT)
      first | (refine hK _ _ ?_; clear hK K) | skip
      try simp only [Act.put, List.setIfInBounds_toArray, List.set_cons_zero, List.set_cons_succ]
      refine wpAny_take (i := 8) (oi := { dst := some 16, op := Op.nilCheck (Operand.tmp 8), type := 0, pos := "buffers.go:91", after := #[{ on := 0, ground := Ground.data }, { on := 0, ground := Ground.phase }, { on := 1, ground := Ground.phase }, { on := 2, ground := Ground.phase }, { on := 3, ground := Ground.phase }, { on := 4, ground := Ground.phase }, { on := 5, ground := Ground.phase }, { on := 6, ground := Ground.phase }, { on := 7, ground := Ground.phase }], guard := none }) (v := ?vP8n20) rfl (by kernel_rfl) (by kernel_rfl) (by kernel_rfl) (fun _ _ _ h => h) (Or.inl ⟨by rfl, ?yP8n20⟩) ?rP8n20
      case yP8n20 => (intro w; first | (go_simp; done) | (go_simp; with_reducible rfl))
      try simp only [Act.put, List.setIfInBounds_toArray, List.set_cons_zero, List.set_cons_succ]
      refine wpAny_take (i := 9) (oi := { dst := some 17, op := Op.fieldAddr 45 (Operand.tmp 16) 0, type := 0, pos := "buffers.go:91", after := #[{ on := 8, ground := Ground.data }, { on := 0, ground := Ground.phase }, { on := 1, ground := Ground.phase }, { on := 2, ground := Ground.phase }, { on := 3, ground := Ground.phase }, { on := 4, ground := Ground.phase }, { on := 5, ground := Ground.phase }, { on := 6, ground := Ground.phase }, { on := 7, ground := Ground.phase }], guard := none }) (v := ?vP9n21) rfl (by kernel_rfl) (by kernel_rfl) (by kernel_rfl) (fun _ _ _ h => h) (Or.inl ⟨by rfl, ?yP9n21⟩) ?rP9n21
      case yP9n21 => (intro w; first | (go_simp; done) | (go_simp; with_reducible rfl))
      try simp only [Act.put, List.setIfInBounds_toArray, List.set_cons_zero, List.set_cons_succ]
      refine wpAny_ready (rs := [10]) (by kernel_rfl) (by simp) (AllReady.cons (o := { dst := none, op := Op.store 43 (Operand.tmp 17) (Operand.tmp 15), type := 0, pos := "buffers.go:91", after := #[{ on := 9, ground := Ground.data }, { on := 7, ground := Ground.data }, { on := 7, ground := Ground.chain }, { on := 0, ground := Ground.phase }, { on := 1, ground := Ground.phase }, { on := 2, ground := Ground.phase }, { on := 3, ground := Ground.phase }, { on := 4, ground := Ground.phase }, { on := 5, ground := Ground.phase }, { on := 6, ground := Ground.phase }, { on := 7, ground := Ground.phase }], guard := none }) rfl (fun K hK => ?bPn22q0) AllReady.nil)
      go_simp
      first | (refine hK _ _ ?_; clear hK K) | skip
      skip
      try simp only [Act.put, List.setIfInBounds_toArray, List.set_cons_zero, List.set_cons_succ]
      refine wpAny_done (by kernel_rfl) ?_ _
      go_wp2_with fail
      first | (refine bodyPost_ret (results_none rfl _ _ _) rfl ?_) | (refine bodyPost_end (results_none rfl _ _ _) rfl ?_)
      exact ⟨rfl, _, HB5.out, HS5.out⟩
end Go.Proofs.YtgbaeajcgiaboaaDoor
