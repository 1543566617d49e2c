/-
  Plans: two rows of bytes that grow side by side.
-/
import Derived.Test.YtglncninkocgaabGreatDoorCR
import Derived.Test.YtglncninkocgaabGreatDoorCS
import Derived.Lib.AppendStr
import Derived.Deep.RegionWith
import Derived.Deep.DrawnRows
import Derived.MapKept
import Derived.Deep.RegionLaw
namespace Go.Proofs.YtglncninkocgaabGreatDoor
open Go.RowKit
set_option linter.unusedVariables false
set_option maxRecDepth 20000

/-- A text that is written, and beside it the brackets that are still to be closed; blocks that neither is made of. -/
structure Pen (w0 w : World) (X : List (Nat × Obj)) (vt : Value) (lt : List UInt8) (vo : Value) (lo : List UInt8) : Prop where
  t : Owns w w0.heap.size vt lt
  o : Owns w w0.heap.size vo lo
  ne : ∀ k, vt.ownBlock = some k → ¬ vo.ownBlock = some k
  b : Below w0.heap.size w0 w
  x : ∀ p ∈ X, w.heap[p.1]? = some p.2 ∧ ¬ vt.ownBlock = some p.1 ∧ ¬ vo.ownBlock = some p.1
theorem lt_of_someN {w : World} {k : Nat} {o : Obj} (h : w.heap[k]? = some o) : k < w.heap.size := by
  rcases Nat.lt_or_ge k w.heap.size with h1 | h1
  · exact h1
  · rw [Array.getElem?_eq_none h1] at h; cases h
theorem below_stepN {w a b : World} (h : Below w.heap.size w a) (k : Below a.heap.size a b) : Below w.heap.size w b := h.trans (k.mono h.size)
theorem Pen.below {w0 w w' : World} {X : List (Nat × Obj)} {vt vo : Value} {lt lo : List UInt8} (h : Pen w0 w X vt lt vo lo) (hb : Below w.heap.size w w') : Pen w0 w' X vt lt vo lo :=
  ⟨h.t.below hb, h.o.below hb, h.ne, below_stepN h.b hb, fun p hp => ⟨(hb.block _ (lt_of_someN (h.x p hp).1)).trans (h.x p hp).1, (h.x p hp).2⟩⟩
theorem Pen.more {w0 w : World} {X : List (Nat × Obj)} {vt vo : Value} {lt lo : List UInt8} (h : Pen w0 w X vt lt vo lo) (o : Obj) : Pen w0 (w.alloc o) ((w.heap.size, o) :: X) vt lt vo lo := by
  have k := h.below ((Below.refl _ _).alloc (Nat.le_refl _) o)
  refine ⟨k.t, k.o, k.ne, k.b, fun p hp => ?_⟩
  rcases List.mem_cons.1 hp with rfl | hp
  · refine ⟨(MapKept.heap_alloc w o).1, fun e => ?_, fun e => ?_⟩
    · have := (World.ownsRow.lt h.t _ e).2; omega
    · have := (World.ownsRow.lt h.o _ e).2; omega
  · exact k.x p hp
theorem Pen.less {w0 w : World} {X Y : List (Nat × Obj)} {vt vo : Value} {lt lo : List UInt8} (h : Pen w0 w X vt lt vo lo) (hY : ∀ p ∈ Y, p ∈ X) : Pen w0 w Y vt lt vo lo := ⟨h.t, h.o, h.ne, h.b, fun p hp => h.x p (hY p hp)⟩
theorem Pen.turn {w0 w : World} {X : List (Nat × Obj)} {vt vo : Value} {lt lo : List UInt8} (h : Pen w0 w X vt lt vo lo) : Pen w0 w X vo lo vt lt := ⟨h.o, h.t, fun k h1 h2 => h.ne k h2 h1, h.b, fun p hp => ⟨(h.x p hp).1, (h.x p hp).2.2, (h.x p hp).2.1⟩⟩

theorem append_str_at {P : Program} (w : World) (B : Nat) (t u ty : TypeId) (i : TypeInfo) (ht : P.underlying t = some (.slice 5)) (hu : P.underlying u = some .string) (hi : P.info? 5 = some i) (hz : i.zero = some (.int .u8 0))
    (hsize : i.size = 1) (hby : i.bytes = 1) (v : Value) (l : List UInt8) (hown : Owns w B v l) (s : ByteArray) (hlen : l.length + s.size ≤ 140737488355328) (hB : B ≤ w.heap.size) :
    ∃ v' w', (Builtin.append_ #[t, u] ty #[v, .string s]).run P w = .ok v' w' ∧ Owns w' B v' (l ++ s.data.toList) ∧ w.grownBy w' v.ownBlock ∧ ∀ k, v'.ownBlock = some k → v.ownBlock = some k ∨ w.heap.size ≤ k := by
  obtain ⟨v', w', hr, h2, h3, h4⟩ := Lib.run_append_own_string (P := P) w B t u ty 5 i ht hu hi hz hsize hby v l.length (l.map bv) hown s (by unfold maxLen; omega) hlen hB
  refine ⟨v', w', hr, Owns.mk h2 (by rw [List.length_append]; rfl) (by rw [List.map_append]; rfl), h3, fun k hk => ?_⟩
  rcases hown.2 with ⟨rfl, h0⟩ | ⟨g, cap, cur, rfl, hbg, hg, hnc, hcm, hcs, htake⟩
  · have hl : l = [] := List.length_eq_zero_iff.1 h0
    subst hl
    obtain ⟨v2, w2, hr2, k2, _, _⟩ := Lib.run_append_own_string (P := P) w w.heap.size t u ty 5 i ht hu hi hz hsize hby (.slice none 0 0) 0 [] (World.ownsRow_nil _ _ _ _) s (by unfold maxLen; simp at hlen; omega) (by simpa using hlen) (Nat.le_refl _)
    rw [hr] at hr2
    cases hr2
    exact .inr (World.ownsRow.lt k2 k hk).1
  · by_cases hroom : l.length + s.size ≤ cap
    · have hr2 := Lib.run_append_room_string (P := P) w t u ty 5 i ht hu hi hsize g l.length cap cur hg s hroom (by omega)
      rw [hr] at hr2
      cases hr2
      exact .inl hk
    · have holds : ∀ j u, (l.map bv)[j]? = some u → w.cell? ((⟨g, 0, none⟩ : Addr).add j) = some u := World.ownsRow.cells hown (g := g) rfl
      have hr2 := Lib.run_append_grow_string (P := P) w t u ty 5 i (.int .u8 0) ht hu hi hz ⟨g, 0, none⟩ l.length cap (l.map bv) (by rw [hsize]; simp) holds s (by omega) (by omega) (by rw [hby]; exact growslice_fits (by omega) (by omega))
      rw [hr] at hr2
      cases hr2
      cases hk
      exact .inr (Nat.le_refl _)

theorem append_row_at {P : Program} (w : World) (B : Nat) (t ty : TypeId) (i : TypeInfo) (ht : P.underlying t = some (.slice 5)) (hi : P.info? 5 = some i) (hz : i.zero = some (.int .u8 0))
    (hsize : i.size = 1) (hby : i.bytes = 1) (v : Value) (l : List UInt8) (hown : Owns w B v l) (ad : Addr) (m c : Nat) (news : List UInt8) (hm : news.length = m) (hnews : ∀ j (hj : j < news.length), w.cell? (ad.add j) = some (bv news[j]))
    (hlen : l.length + m ≤ 140737488355328) (hB : B ≤ w.heap.size) :
    ∃ v' w', (Builtin.append_ #[t, t] ty #[v, .slice (some ad) m c]).run P w = .ok v' w' ∧ Owns w' B v' (l ++ news) ∧ w.grownBy w' v.ownBlock ∧ ∀ k, v'.ownBlock = some k → v.ownBlock = some k ∨ w.heap.size ≤ k := by
  have hn2 : ∀ j u, (news.map bv)[j]? = some u → w.cell? (ad.add j) = some u := by
    intro j u hu
    rw [List.getElem?_map] at hu
    obtain ⟨b, hb, rfl⟩ := Option.map_eq_some_iff.1 hu
    obtain ⟨hj, rfl⟩ := List.getElem?_eq_some_iff.1 hb
    exact hnews j hj
  have h1 : ∀ u ∈ news.map bv, u.oneCell' = true := by
    intro u hu
    obtain ⟨b, _, rfl⟩ := List.mem_map.1 hu
    rfl
  obtain ⟨v', w', hr, h2, h3, h4⟩ := run_append_own (P := P) w B t ty 5 i (.int .u8 0) 1 1 ht hi hz hsize hby rfl (by decide) v l.length (l.map bv) hown ad m c (news.map bv) (by simp [hm]) hn2 h1 (by unfold maxLen; omega) (by omega) hB
  refine ⟨v', w', hr, Owns.mk h2 (by simp [hm]) (by simp), h3, fun k hk => ?_⟩
  rcases hown.2 with ⟨rfl, h0⟩ | ⟨g, cap, cur, rfl, hbg, hg, hnc, hcm, hcs, htake⟩
  · have hl : l = [] := List.length_eq_zero_iff.1 h0
    subst hl
    obtain ⟨v2, w2, hr2, k2, _, _⟩ := run_append_own (P := P) w w.heap.size t ty 5 i (.int .u8 0) 1 1 ht hi hz hsize hby rfl (by decide) (.slice none 0 0) 0 [] (World.ownsRow_nil _ _ _ _) ad m c (news.map bv) (by simp [hm]) hn2 h1 (by unfold maxLen; simp at hlen; omega) (by simpa using hlen) (Nat.le_refl _)
    rw [hr] at hr2
    cases hr2
    exact .inr (World.ownsRow.lt k2 k hk).1
  · by_cases hroom : l.length + m ≤ cap
    · have hr2 := run_append_room (P := P) w t ty 5 i ht hi g l.length cap cur hg ad m c (news.map bv) (by rw [hsize]; simp [hm]) hn2 h1 hroom (by rw [hsize]; simp [hm]; omega)
      rw [hr] at hr2
      cases hr2
      exact .inl hk
    · have holds : ∀ j u, (l.map bv)[j]? = some u → w.cell? ((⟨g, 0, none⟩ : Addr).add j) = some u := World.ownsRow.cells hown (g := g) rfl
      have hr2 := run_append_grow (P := P) w t ty 5 i (.int .u8 0) ht hi hz ⟨g, 0, none⟩ l.length cap (l.map bv) (by rw [hsize]; simp) holds ad m c (news.map bv) (by rw [hsize]; simp [hm]) hn2 (by omega) (by omega) (by rw [hby]; exact growslice_fits (by omega) (by omega))
      rw [hr] at hr2
      cases hr2
      cases hk
      exact .inr (Nat.le_refl _)

theorem Pen.writes {w0 w w' : World} {X : List (Nat × Obj)} {vt vo v' : Value} {lt lo l' : List UInt8} (h : Pen w0 w X vt lt vo lo) (h2 : Owns w' w0.heap.size v' l') (h3 : w.grownBy w' vt.ownBlock) (h4 : ∀ k, v'.ownBlock = some k → vt.ownBlock = some k ∨ w.heap.size ≤ k) : Pen w0 w' X v' l' vo lo := by
  refine ⟨h2, World.ownsRow.kept h.o h3 ?_, fun k hk ho => ?_, h.b.grown h3 h.b.size (fun k hk => h.t.base k hk), fun p hp => ?_⟩
  · cases hv : vo.ownBlock with
    | none => exact .inl rfl
    | some k => exact .inr fun e => h.ne k e.symm hv
  · rcases h4 k hk with e | e
    · exact h.ne k e ho
    · have := (World.ownsRow.lt h.o k ho).2; omega
  · obtain ⟨q1, q2, q3⟩ := h.x p hp
    have hlt := lt_of_someN q1
    refine ⟨(h3.block _ hlt (fun e => q2 e.symm)).trans q1, fun e => ?_, q3⟩
    rcases h4 _ e with e | e
    · exact q2 e
    · omega

theorem wpList_pen_str {ops : Array Oper} {rest : List Oper} {o : Oper} {a : Act} {Q : Exit → Act → World → Prop} (w0 w : World) (X : List (Nat × Obj)) (hgd : o.guard = none) (s x : Operand)
    (ho : o.op = .call { callee := .builtin .append, args := #[s, x], argTypes := #[67, 9] })
    (vt vo : Value) (lt lo : List UInt8) (hs : a.eval s = vt) (hp : Pen w0 w X vt lt vo lo) (z : ByteArray) (hx : a.eval x = .string z) (hlen : lt.length + z.size ≤ 140737488355328)
    (h : ∀ v' w', Hid (Pen w0 w' X v' (lt ++ z.data.toList) vo lo) → wpList Tryz.prog ops Q rest (a.put o.dst v') w') : wpList Tryz.prog ops Q (o :: rest) a w := by
  obtain ⟨i0, hi, hz0, hz1, hz2⟩ := info_parts info5
  obtain ⟨v', w', hr, h2, h3, h4⟩ := append_str_at (P := Tryz.prog) w w0.heap.size 67 9 o.type i0 Tryz.underlying67 Tryz.underlying9 hi hz0 hz1 hz2 vt lt hp.t z hlen hp.b.size
  refine wpList_plain hgd fun K hK => ?_
  unfold Oper.wp execOp
  simp only [ho, resolve, invoke, builtin, Sem.run_bind, Sem.run_pure, Result.andThen_ok, List.map_toArray, List.map_cons, List.map_nil, hs, hx, hr]
  exact hK _ _ (h v' w' (hp.writes h2 h3 h4))
theorem wpList_pen_byte {ops : Array Oper} {rest : List Oper} {o : Oper} {a : Act} {Q : Exit → Act → World → Prop} (w0 w : World) (X : List (Nat × Obj)) (hgd : o.guard = none) (s x : Operand)
    (ho : o.op = .call { callee := .builtin .append, args := #[s, x], argTypes := #[67, 67] })
    (vt vo : Value) (lt lo : List UInt8) (c : UInt8) (T : TypeId) (hs : a.eval s = vt) (hp : Pen w0 w X vt lt vo lo) (hx : a.eval x = .slice (some ⟨w.heap.size, 0, none⟩) 1 1) (hlen : lt.length ≤ 140737488355000)
    (h : ∀ v' w', Hid (Pen w0 w' X v' (lt ++ [c]) vo lo) → wpList Tryz.prog ops Q rest (a.put o.dst v') w') : wpList Tryz.prog ops Q (o :: rest) a (w.alloc (.cells #[.int .u8 c.toNat] T)) := by
  obtain ⟨i0, hi, hz0, hz1, hz2⟩ := info_parts info5
  have hp' : Pen w0 (w.alloc (.cells #[.int .u8 c.toNat] T)) X vt lt vo lo := hp.below ((Below.refl _ _).alloc (Nat.le_refl _) _)
  obtain ⟨v', w', hr, h2, h3, h4⟩ := append_row_at (P := Tryz.prog) (w.alloc (.cells #[.int .u8 c.toNat] T)) w0.heap.size 67 o.type i0 Tryz.underlying67 hi hz0 hz1 hz2 vt lt hp'.t ⟨w.heap.size, 0, none⟩ 1 1 [c] rfl (one_cell w c T) (by omega) hp'.b.size
  refine wpList_plain hgd fun K hK => ?_
  unfold Oper.wp execOp
  simp only [ho, resolve, invoke, builtin, Sem.run_bind, Sem.run_pure, Result.andThen_ok, List.map_toArray, List.map_cons, List.map_nil, hs, hx, hr]
  exact hK _ _ (h v' w' (hp'.writes h2 h3 h4))
theorem wpList_pen_open {ops : Array Oper} {rest : List Oper} {o : Oper} {a : Act} {Q : Exit → Act → World → Prop} (w0 w : World) (X : List (Nat × Obj)) (hgd : o.guard = none) (s x : Operand)
    (ho : o.op = .call { callee := .builtin .append, args := #[s, x], argTypes := #[67, 67] })
    (vt vo : Value) (lt lo : List UInt8) (c : UInt8) (T : TypeId) (hs : a.eval s = vo) (hp : Pen w0 w X vt lt vo lo) (hx : a.eval x = .slice (some ⟨w.heap.size, 0, none⟩) 1 1) (hlen : lo.length ≤ 140737488355000)
    (h : ∀ v' w', Hid (Pen w0 w' X vt lt v' (lo ++ [c])) → wpList Tryz.prog ops Q rest (a.put o.dst v') w') : wpList Tryz.prog ops Q (o :: rest) a (w.alloc (.cells #[.int .u8 c.toNat] T)) :=
  wpList_pen_byte w0 w X hgd s x ho vo vt lo lt c T hs hp.turn hx hlen fun v' w' hh => h v' w' hh.out.turn

theorem step_pen_byte {ops : Array Oper} {o : Oper} {a : Act} {K : Act → World → Prop} {Q : Exit → Act → World → Prop} {E : Prop} (w0 w : World) (X : List (Nat × Obj)) (hgd : o.guard = none) (s x : Operand)
    (ho : o.op = .call { callee := .builtin .append, args := #[s, x], argTypes := #[67, 67] })
    (vt vo : Value) (lt lo : List UInt8) (c : UInt8) (T : TypeId) (hs : a.eval s = vt) (hp : Pen w0 w X vt lt vo lo) (hx : a.eval x = .slice (some ⟨w.heap.size, 0, none⟩) 1 1) (hlen : lt.length ≤ 140737488355000)
    (h : ∀ v' w', Hid (Pen w0 w' X v' (lt ++ [c]) vo lo) → K (a.put o.dst v') w') : if Region.wanted o (yielded ops a.tmps) = true then Oper.wp Tryz.prog o a (w.alloc (.cells #[.int .u8 c.toNat] T)) K Q else E := by
  have hw : Region.wanted o (yielded ops a.tmps) = true := by simp [Region.wanted, hgd]
  rw [if_pos hw]
  obtain ⟨i0, hi, hz0, hz1, hz2⟩ := info_parts info5
  have hp' : Pen w0 (w.alloc (.cells #[.int .u8 c.toNat] T)) X vt lt vo lo := hp.below ((Below.refl _ _).alloc (Nat.le_refl _) _)
  obtain ⟨v', w', hr, h2, h3, h4⟩ := append_row_at (P := Tryz.prog) (w.alloc (.cells #[.int .u8 c.toNat] T)) w0.heap.size 67 o.type i0 Tryz.underlying67 hi hz0 hz1 hz2 vt lt hp'.t ⟨w.heap.size, 0, none⟩ 1 1 [c] rfl (one_cell w c T) (by omega) hp'.b.size
  unfold Oper.wp execOp
  simp only [ho, resolve, invoke, builtin, Sem.run_bind, Sem.run_pure, Result.andThen_ok, List.map_toArray, List.map_cons, List.map_nil, hs, hx, hr]
  exact h v' w' (hp'.writes h2 h3 h4)
theorem step_pen_row {ops : Array Oper} {o : Oper} {a : Act} {K : Act → World → Prop} {Q : Exit → Act → World → Prop} {E : Prop} (w0 w : World) (X : List (Nat × Obj)) (hgd : o.guard = none) (s x : Operand)
    (ho : o.op = .call { callee := .builtin .append, args := #[s, x], argTypes := #[67, 67] })
    (vt vo : Value) (lt lo : List UInt8) (c : UInt8) (T : TypeId) (g : Nat) (hs : a.eval s = vt) (hp : Pen w0 w X vt lt vo lo) (hm : (g, Obj.cells #[.int .u8 c.toNat] T) ∈ X) (hx : a.eval x = .slice (some ⟨g, 0, none⟩) 1 1) (hlen : lt.length ≤ 140737488355000)
    (h : ∀ v' w', Hid (Pen w0 w' X v' (lt ++ [c]) vo lo) → K (a.put o.dst v') w') : if Region.wanted o (yielded ops a.tmps) = true then Oper.wp Tryz.prog o a w K Q else E := by
  have hw : Region.wanted o (yielded ops a.tmps) = true := by simp [Region.wanted, hgd]
  rw [if_pos hw]
  obtain ⟨i0, hi, hz0, hz1, hz2⟩ := info_parts info5
  have hcell : ∀ j (hj : j < [c].length), w.cell? ((⟨g, 0, none⟩ : Addr).add j) = some (bv [c][j]) := by
    intro j hj
    rw [show (⟨g, 0, none⟩ : Addr).add j = ⟨g, j, none⟩ by unfold Addr.add; split <;> simp_all]
    have h1 := (hp.x _ hm).1
    match j, hj with
    | 0, _ => simp [World.cell?, h1, bv]
  obtain ⟨v', w', hr, h2, h3, h4⟩ := append_row_at (P := Tryz.prog) w w0.heap.size 67 o.type i0 Tryz.underlying67 hi hz0 hz1 hz2 vt lt hp.t ⟨g, 0, none⟩ 1 1 [c] rfl hcell (by omega) hp.b.size
  unfold Oper.wp execOp
  simp only [ho, resolve, invoke, builtin, Sem.run_bind, Sem.run_pure, Result.andThen_ok, List.map_toArray, List.map_cons, List.map_nil, hs, hx, hr]
  exact h v' w' (hp.writes h2 h3 h4)
theorem step_pen_rowO {ops : Array Oper} {o : Oper} {a : Act} {K : Act → World → Prop} {Q : Exit → Act → World → Prop} {E : Prop} (w0 w : World) (X : List (Nat × Obj)) (hgd : o.guard = none) (s x : Operand)
    (ho : o.op = .call { callee := .builtin .append, args := #[s, x], argTypes := #[67, 67] })
    (vt vo : Value) (lt lo : List UInt8) (c : UInt8) (T : TypeId) (g : Nat) (hs : a.eval s = vo) (hp : Pen w0 w X vt lt vo lo) (hm : (g, Obj.cells #[.int .u8 c.toNat] T) ∈ X) (hx : a.eval x = .slice (some ⟨g, 0, none⟩) 1 1) (hlen : lo.length ≤ 140737488355000)
    (h : ∀ v' w', Hid (Pen w0 w' X vt lt v' (lo ++ [c])) → K (a.put o.dst v') w') : if Region.wanted o (yielded ops a.tmps) = true then Oper.wp Tryz.prog o a w K Q else E :=
  step_pen_row w0 w X hgd s x ho vo vt lo lt c T g hs hp.turn hm hx hlen fun v' w' hh => h v' w' hh.out.turn
theorem step_pen_str {ops : Array Oper} {o : Oper} {a : Act} {K : Act → World → Prop} {Q : Exit → Act → World → Prop} {E : Prop} (w0 w : World) (X : List (Nat × Obj)) (hgd : o.guard = none) (s x : Operand)
    (ho : o.op = .call { callee := .builtin .append, args := #[s, x], argTypes := #[67, 9] })
    (vt vo : Value) (lt lo : List UInt8) (hs : a.eval s = vt) (hp : Pen w0 w X vt lt vo lo) (z : ByteArray) (hx : a.eval x = .string z) (hlen : lt.length + z.size ≤ 140737488355328)
    (h : ∀ v' w', Hid (Pen w0 w' X v' (lt ++ z.data.toList) vo lo) → K (a.put o.dst v') w') : if Region.wanted o (yielded ops a.tmps) = true then Oper.wp Tryz.prog o a w K Q else E := by
  have hw : Region.wanted o (yielded ops a.tmps) = true := by simp [Region.wanted, hgd]
  rw [if_pos hw]
  obtain ⟨i0, hi, hz0, hz1, hz2⟩ := info_parts info5
  obtain ⟨v', w', hr, h2, h3, h4⟩ := append_str_at (P := Tryz.prog) w w0.heap.size 67 9 o.type i0 Tryz.underlying67 Tryz.underlying9 hi hz0 hz1 hz2 vt lt hp.t z hlen hp.b.size
  unfold Oper.wp execOp
  simp only [ho, resolve, invoke, builtin, Sem.run_bind, Sem.run_pure, Result.andThen_ok, List.map_toArray, List.map_cons, List.map_nil, hs, hx, hr]
  exact h v' w' (hp.writes h2 h3 h4)
theorem Pen.drew {w0 w : World} {X : List (Nat × Obj)} {vt vo : Value} {lt lo : List UInt8} (h : Pen w0 w X vt lt vo lo) : Pen w0 w.drew X vt lt vo lo := h.below (Below.refl _ _).drew
theorem cell_atN {w : World} {b : Nat} {cs : Array Value} {t : TypeId} (h : w.heap[b]? = some (.cells cs t (0, 0))) (o : Nat) : w.cell? ⟨b, o, none⟩ = cs[o]? := by simp [World.cell?, h]
theorem hidden {p : Prop} (h : p) : Hid p := h
theorem box_step (n : Int) (X w0 : World) (hN : NumV w0) (hb : Below w0.heap.size w0 X) (hn : -9223372036854775808 ≤ n ∧ n ≤ 9223372036854775807) : Calls Tryz.prog 56 #[.int .i64 n] X fun e w' => e = .returned (.string (str (putL n))) ∧ Below X.heap.size X w' := putNumber_any n X (hN.below hb) hn.1 hn.2

set_option maxHeartbeats 4000000 in
theorem appendBox_any (w0 w : World) (X : List (Nat × Obj)) (hN : NumV w0) (vt vo : Value) (lt lo : List UInt8) (c : CellV) (hc : ∀ n ∈ [c.x, c.y, c.w, c.h], -9223372036854775808 ≤ n ∧ n ≤ 9223372036854775807) (hp : Pen w0 w X vt lt vo lo) (hl : lt.length ≤ 1000000) : Calls Tryz.prog 55 #[vt, .agg c.vals] w fun e w' => ∃ v', e = .returned v' ∧ Pen w0 w' X v' (lt ++ boxT c.box) vo lo := by
  have HP : Hid (∀ n Y, (-9223372036854775808 ≤ n ∧ n ≤ 9223372036854775807) → Below w0.heap.size w0 Y → Calls Tryz.prog 56 #[.int .i64 n] Y fun e w' => e = .returned (.string (str (putL n))) ∧ Below Y.heap.size Y w') := fun n Y hn hb => box_step n Y w0 hN hb hn
  obtain ⟨C, hC⟩ : ∃ C : Nat × Obj, C = (w.heap.size, .cells c.vals 36) := ⟨_, rfl⟩
  have H0 : Hid (Pen w0 (w.alloc (.cells c.vals 36)) (C :: X) vt lt vo lo) := by rw [hC]; exact hp.more _
  have HC : Hid (∀ Y v l v2 l2, Pen w0 Y (C :: X) v l v2 l2 → ∀ (o : Nat), Y.cell? ⟨w.heap.size, o, none⟩ = c.vals[o]?) := fun Y v l v2 l2 hY o => by
    have := (hY.x C (List.mem_cons_self ..)).1
    rw [hC] at this
    exact cell_atN this o
  have hx := hc c.x (by simp)
  have hy := hc c.y (by simp)
  have hw := hc c.w (by simp)
  have hh := hc c.h (by simp)
  have b1 := putL_length c.w
  have b2 := putL_length c.h
  have b3 := putL_length c.x
  have b4 := putL_length c.y
  clear hN hp hC hc
  unfold CellV.vals at H0
  unfold CellV.vals
  have q4 : (w.alloc (.cells #[.int .i64 c.depth, .int .i64 c.kind, .int .i64 c.x, .int .i64 c.y, .int .i64 c.w, .int .i64 c.h, .int .i64 c.p] 36)).cell? ⟨w.heap.size, 4, none⟩ = some (.int .i64 c.w) := HC.out _ _ _ _ _ H0.out 4
  go_enter Tryz.func55, Tryz.ntmps55
  go_wp2_with fail
  refine (HP.out _ _ hw H0.out.b).mono ?_
  rintro e w1 ⟨rfl, hb1⟩
  have H1 := hidden (H0.out.below hb1)
  clear hb1 H0
  go_wp2_with (first | (refine wpList_pen_str w0 _ (C :: X) rfl _ _ rfl vt vo _ lo (by simp [Act.eval]) H1.out (str (putL c.w)) (by simp [Act.eval]) (by simp [str_size]; omega) ?_; intro v2 w2 H2) | (refine wpList_pen_byte w0 w2 (C :: X) rfl _ _ rfl v2 vo _ lo 120 _ (by simp [Act.eval]) H2.out (by simp [Act.eval]) (by simp [str_data]; omega) ?_; intro v3 w3 H3; have q3 : w3.cell? ⟨w.heap.size, 5, none⟩ = some (.int .i64 c.h) := HC.out _ _ _ _ _ H3.out 5))
  refine (HP.out _ _ hh H3.out.b).mono ?_
  rintro e w4 ⟨rfl, hb4⟩
  have H4 := hidden (H3.out.below hb4)
  clear hb4 H3
  go_wp2_with (first | (refine wpList_pen_str w0 _ (C :: X) rfl _ _ rfl v3 vo _ lo (by simp [Act.eval]) H4.out (str (putL c.h)) (by simp [Act.eval]) (by simp [str_size, str_data]; omega) ?_; intro v5 w5 H5) | (refine wpList_pen_byte w0 w5 (C :: X) rfl _ _ rfl v5 vo _ lo 44 _ (by simp [Act.eval]) H5.out (by simp [Act.eval]) (by simp [str_data]; omega) ?_; intro v6 w6 H6; have q6 : w6.cell? ⟨w.heap.size, 2, none⟩ = some (.int .i64 c.x) := HC.out _ _ _ _ _ H6.out 2))
  refine (HP.out _ _ hx H6.out.b).mono ?_
  rintro e w7 ⟨rfl, hb7⟩
  have H7 := hidden (H6.out.below hb7)
  clear hb7 H6
  go_wp2_with (first | (refine wpList_pen_str w0 _ (C :: X) rfl _ _ rfl v6 vo _ lo (by simp [Act.eval]) H7.out (str (putL c.x)) (by simp [Act.eval]) (by simp [str_size, str_data]; omega) ?_; intro v8 w8 H8) | (refine wpList_pen_byte w0 w8 (C :: X) rfl _ _ rfl v8 vo _ lo 44 _ (by simp [Act.eval]) H8.out (by simp [Act.eval]) (by simp [str_data]; omega) ?_; intro v9 w9 H9; have q9 : w9.cell? ⟨w.heap.size, 3, none⟩ = some (.int .i64 c.y) := HC.out _ _ _ _ _ H9.out 3))
  refine (HP.out _ _ hy H9.out.b).mono ?_
  rintro e w10 ⟨rfl, hb10⟩
  have H10 := hidden (H9.out.below hb10)
  clear hb10 H9
  go_wp2_with (refine wpList_pen_str w0 _ (C :: X) rfl _ _ rfl v9 vo _ lo (by simp [Act.eval]) H10.out (str (putL c.y)) (by simp [Act.eval]) (by simp [str_size, str_data]; omega) ?_; intro v11 w11 H11)
  go_ret
  refine ⟨_, rfl, ?_⟩
  have k := H11.out.less (Y := X) (fun p hp => List.mem_cons_of_mem _ hp)
  have e : lt ++ boxT c.box = lt ++ (str (putL c.w)).data.toList ++ [120] ++ (str (putL c.h)).data.toList ++ [44] ++ (str (putL c.x)).data.toList ++ [44] ++ (str (putL c.y)).data.toList := by
    simp [str_data, boxT, CellV.box]
  rw [e]
  exact k
end Go.Proofs.YtglncninkocgaabGreatDoor
