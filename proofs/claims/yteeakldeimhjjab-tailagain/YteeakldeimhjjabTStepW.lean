/-
  The tail: step's walks.
-/
import Derived.Test.YteeakldeimhjjabTStep
import Derived.WalkKit
import Derived.Deep.RegionHeld3
namespace Go.Proofs.Yteeakldeimhjjab
open Go.RowKit Go.Lib
set_option linter.unusedVariables false
set_option maxRecDepth 100000

/-- What is left at step's end. -/
theorem went_end {w w2 w3 w4 : World} {b : Nat} {v v' : Value} {lim st st' : Nat} {l l' : List UInt8} {R O Z : Obj} (hlt : ∀ k ∈ foot b v, k < w.heap.size) (h : Here w w2 b v lim st l R O Z) (hs : Side w2 b v' lim st' l') (ho : v'.ownBlock = v.ownBlock ∨ ∀ k, v'.ownBlock = some k → w.heap.size + 3 ≤ k)
    (h4 : (∀ k, k ≠ w.heap.size + 2 → w3.heap[k]? = w2.heap[k]?) ∧ ∀ B, B ≤ w.heap.size + 2 → Below B w2 w3) (h3 : Below w3.heap.size w3 w4) : Went w w4 b v lim st' l' := by
  have hf : ∀ k ∈ foot b v', k < w.heap.size ∨ w.heap.size + 3 ≤ k := by
    intro k hk
    rcases List.mem_cons.1 hk with rfl | hk
    · exact .inl (hlt _ (by simp [foot]))
    · have hk2 : v'.ownBlock = some k := by simpa using hk
      rcases ho with hh | hh
      · exact .inl (hlt k (by simp [foot, ← hh, hk2]))
      · exact .inr (hh k hk2)
  refine ⟨v', (hs.keep fun k hk => h4.1 k (by have := hf k hk; omega)).below h3, ?_, ?_⟩
  · have hsz := (h4.2 0 (by omega)).size
    refine ⟨h3.os.trans ((h4.2 0 (by omega)).os.trans h.but.os), h3.tape.trans ((h4.2 0 (by omega)).tape.trans h.but.tape), h3.output.trans ((h4.2 0 (by omega)).output.trans h.but.output), ?_, fun k hk hn => ?_⟩
    · exact Nat.le_trans h.but.size (Nat.le_trans hsz h3.size)
    · have := h.size
      exact ((h3.block k (by omega)).trans (h4.1 k (by omega))).trans (h.but.block k hk hn)
  · rcases ho with hh | hh
    · exact .inl hh
    · exact .inr (fun k hk => by have := hh k hk; omega)
/-- The result's cells, behind a block more. -/
theorem cells_more {w : World} {R : Nat} {x y z : Value} {t : TypeId} (h : w.heap[R]? = some (.cells #[x, y, z] t (0, 0))) (o : Obj) : (w.alloc o).cell? ⟨R, 0, none⟩ = some x ∧ (w.alloc o).cell? ⟨R, 1, none⟩ = some y ∧ (w.alloc o).cell? ⟨R, 2, none⟩ = some z := by
  have h2 : (w.alloc o).heap[R]? = some (.cells #[x, y, z] t (0, 0)) := by rw [Below.heap_alloc _ _ _ (lt_of_block h)]; exact h
  exact ⟨cell_atT h2 0, cell_atT h2 1, cell_atT h2 2⟩

set_option maxHeartbeats 4000000 in
theorem step_append {b : Nat} {v : Value} {lim st : Nat} {l : List UInt8} (t : ByteArray) (A B : Int) {w : World} (h : Side w b v lim st l) (ht : t.size ≤ 9223372036854775807) :
    Calls Try.prog 6 #[.pointer (some ⟨b, 0, none⟩), refN lim st l, opV 0 t A B] w fun x w' => x = .returned (.tuple #[refN lim (appS lim st l t) (appL lim st l t), .bool true]) ∧ Went w w' b v lim (appS lim st l t) (appL lim st l t) := by
  have hlt := h.log.lt
  have HA : Hid (∀ W, Side W b v lim st l → Calls Try.prog 17 #[.pointer (some ⟨b, 0, none⟩), .string t] W fun x w' => x = .returned (.int .i64 (if st + l.length + t.size > 4611686018427387904 then 2 else 0)) ∧ Went W w' b v lim (appS lim st l t) (appL lim st l t)) := fun W hW => append_side hW ht
  have HR : Hid (∀ W, Calls Try.prog 18 #[.agg #[.int .i64 (lim : Int), .int .i64 (st : Int), .string (str l)], .string t] W fun x w' => x = .returned (.tuple #[.agg #[.int .i64 (lim : Int), .int .i64 (appS lim st l t : Int), .string (str (appL lim st l t))], .int .i64 (if st + l.length + t.size > 4611686018427387904 then 2 else 0)]) ∧ Below W.heap.size W w') := fun W => refAppend_side lim st l t W h.log.len h.log.high h.most ht
  have HH := Here.start (w := w) (b := b) (v := v) (lim := lim) (st := st) (l := l) (.cells #[.int .i64 (lim : Int), .int .i64 (st : Int), .string (str l)] 27) (.cells #[.int .i64 0, .string t, .int .i64 A, .int .i64 B] 33) (.cells #[.int .i64 0, .int .i64 0, .string ⟨#[]⟩] 27)
  have HS0 := h.below (heap_three w (.cells #[.int .i64 (lim : Int), .int .i64 (st : Int), .string (str l)] 27) (.cells #[.int .i64 0, .string t, .int .i64 A, .int .i64 B] 33) (.cells #[.int .i64 0, .int .i64 0, .string ⟨#[]⟩] 27)).2.2.2.2
  obtain ⟨st', hst'⟩ : ∃ st', appS lim st l t = st' := ⟨_, rfl⟩
  obtain ⟨l', hl'⟩ : ∃ l', appL lim st l t = l' := ⟨_, rfl⟩
  obtain ⟨E, hE⟩ : ∃ E : Int, (if st + l.length + t.size > 4611686018427387904 then (2 : Int) else 0) = E := ⟨_, rfl⟩
  rw [hst', hl', hE] at HA HR
  rw [hst', hl']
  obtain ⟨d', hd'⟩ : ∃ d', str l' = d' := ⟨_, rfl⟩
  have HD' : Hid (str l' = d') := hd'
  rw [hd'] at HR
  obtain ⟨d, hd⟩ : ∃ d, str l = d := ⟨_, rfl⟩
  rw [hd] at HR HH HS0
  unfold refN opV
  rw [hd, hd']
  have HHh : Hid (Here w (((w.alloc (.cells #[.int .i64 (lim : Int), .int .i64 (st : Int), .string d] 27)).alloc (.cells #[.int .i64 0, .string t, .int .i64 A, .int .i64 B] 33)).alloc (.cells #[.int .i64 0, .int .i64 0, .string ⟨#[]⟩] 27)) b v lim st l (.cells #[.int .i64 (lim : Int), .int .i64 (st : Int), .string d] 27) (.cells #[.int .i64 0, .string t, .int .i64 A, .int .i64 B] 33) (.cells #[.int .i64 0, .int .i64 0, .string ⟨#[]⟩] 27)) := HH
  have HSh : Hid (Side (((w.alloc (.cells #[.int .i64 (lim : Int), .int .i64 (st : Int), .string d] 27)).alloc (.cells #[.int .i64 0, .string t, .int .i64 A, .int .i64 B] 33)).alloc (.cells #[.int .i64 0, .int .i64 0, .string ⟨#[]⟩] 27)) b v lim st l) := HS0
  have HLT : Hid (∀ k ∈ foot b v, k < w.heap.size) := hlt
  clear hst' hl' hE hd' hd HH HS0 hlt h
  go_enter Try.func6, Try.ntmps6
  go_wp2_with fail
  refine (HA.out _ HSh.out).mono ?_
  rintro x w1 ⟨rfl, v', hsd, hbut, hown⟩
  have H1 := HHh.out.but_log HLT.out hbut
  have HW1 : Hid (Side w1 b v' lim st' l') := hsd
  have HO : Hid (v'.ownBlock = v.ownBlock ∨ ∀ k, v'.ownBlock = some k → w.heap.size + 3 ≤ k) := by
    rcases hown with hh | hh
    · exact .inl hh
    · exact .inr (fun k hk => by have h6 := hh k hk; have h5 := (heap_three w (.cells #[.int .i64 (lim : Int), .int .i64 (st : Int), .string d] 27) (.cells #[.int .i64 0, .string t, .int .i64 A, .int .i64 B] 33) (.cells #[.int .i64 0, .int .i64 0, .string ⟨#[]⟩] 27)).2.2.2.1; omega)
  have HH1 : Hid (Here w w1 b v lim st l (.cells #[.int .i64 (lim : Int), .int .i64 (st : Int), .string d] 27) (.cells #[.int .i64 0, .string t, .int .i64 A, .int .i64 B] 33) (.cells #[.int .i64 0, .int .i64 0, .string ⟨#[]⟩] 27)) := H1
  have r0 : w1.cell? ⟨w.heap.size, 0, none⟩ = some (.int .i64 lim) := cell_atT H1.r 0
  have r1 : w1.cell? ⟨w.heap.size, 1, none⟩ = some (.int .i64 st) := cell_atT H1.r 1
  have r2 : w1.cell? ⟨w.heap.size, 2, none⟩ = some (.string d) := cell_atT H1.r 2
  have o1 : w1.cell? ⟨w.heap.size + 1, 1, none⟩ = some (.string t) := cell_atT H1.o 1
  clear hsd hbut hown H1 HHh HSh
  go_wp2_with fail
  refine (HR.out _).mono ?_
  rintro x w2 ⟨rfl, hb2⟩
  have H2 := HH1.out.below hb2
  have HH2 : Hid (Here w w2 b v lim st l (.cells #[.int .i64 (lim : Int), .int .i64 (st : Int), .string d] 27) (.cells #[.int .i64 0, .string t, .int .i64 A, .int .i64 B] 33) (.cells #[.int .i64 0, .int .i64 0, .string ⟨#[]⟩] 27)) := H2
  have HW2 : Hid (Side w2 b v' lim st' l') := HW1.out.below hb2
  have hs2 := H2.size
  have hne : w.heap.size + 1 + 1 ≠ w2.heap.size := by omega
  have hne2 : w2.heap.size ≠ w.heap.size + 1 + 1 := by omega
  have hlt2 : w.heap.size + 1 + 1 < w2.heap.size := by omega
  have y0 : w2.cell? ⟨w.heap.size + 1 + 1, 0, none⟩ = some (.int .i64 0) := cell_atT H2.z 0
  have y1 : w2.cell? ⟨w.heap.size + 1 + 1, 1, none⟩ = some (.int .i64 0) := cell_atT H2.z 1
  have y2 : w2.cell? ⟨w.heap.size + 1 + 1, 2, none⟩ = some (.string ⟨#[]⟩) := cell_atT H2.z 2
  have yf : ∀ o, w2.frozen? ⟨w.heap.size + 1 + 1, o, none⟩ = false := free_atT H2.z
  clear hb2 H2 r0 r1 r2 o1
  go_wp2_with fail
  have SF := stored3 (x := .int .i64 (lim : Int)) (y := .int .i64 (st' : Int)) (z := .string d') HH2.out.z
  obtain ⟨t0, t1, t2⟩ := cells_more SF.1 (.cells #[.int .i64 (lim : Int), .int .i64 (st' : Int), .string d'] 27)
  refine bodyPost_ret (v := .tuple #[.agg #[.int .i64 (lim : Int), .int .i64 (st' : Int), .string d'], .bool true]) (by simp [results, Try.results6, go_sem, t0, t1, t2]) rfl ?_
  refine ⟨by rfl, ?_⟩
  exact went_end HLT.out HH2.out HW2.out HO.out SF.2 ((Below.refl _ _).alloc (Nat.le_refl _) _)

end Go.Proofs.Yteeakldeimhjjab
