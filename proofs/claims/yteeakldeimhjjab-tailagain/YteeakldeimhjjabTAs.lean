/-
  The tail: does a Log tell of itself what the document says?
-/
import Derived.Test.YteeakldeimhjjabTRefD
import Derived.Test.YteeakldeimhjjabTQuiet
import Derived.WalkKit
namespace Go.Proofs.Yteeakldeimhjjab
open Go.RowKit Go.Lib
set_option linter.unusedVariables false
set_option maxRecDepth 100000

theorem below_of_drewN {w X : World} {B : Nat} (h : Below B w X) (m : Nat) : Below B w (X.drewN m) := ⟨h.os, h.tape, h.output, h.size, h.block⟩

set_option maxHeartbeats 2000000 in
theorem as_any {b : Nat} {v : Value} {lim e st : Nat} {l : List UInt8} {w : World} (h : LogAt w b v lim e l) (hs : st + l.length = e) :
    Calls Try.prog 11 #[.pointer (some ⟨b, 0, none⟩), refV lim st (str l)] w fun x w' => x = .returned (.bool true) ∧ Below w.heap.size w w' := by
  have hmost := h.most
  unfold refV
  have hb0 : Below w.heap.size w (w.alloc (.cells #[.int .i64 (lim : Int), .int .i64 (st : Int), .string (str l)] 27)) := (Below.refl _ w).alloc (Nat.le_refl _) _
  have hn0 : (w.alloc (.cells #[.int .i64 (lim : Int), .int .i64 (st : Int), .string (str l)] 27)).heap[w.heap.size]? = some (.cells #[.int .i64 (lim : Int), .int .i64 (st : Int), .string (str l)] 27 (0, 0)) := heap_alloc_new w _
  obtain ⟨N, hN⟩ : ∃ N, N = w.heap.size := ⟨_, rfl⟩
  have HCl : ∀ X, Below (N + 1) (w.alloc (.cells #[.int .i64 (lim : Int), .int .i64 (st : Int), .string (str l)] 27)) X → Below w.heap.size w X := fun X hX => hb0.trans (hX.mono (by omega))
  have HX : Hid (∀ X, Below (N + 1) (w.alloc (.cells #[.int .i64 (lim : Int), .int .i64 (st : Int), .string (str l)] 27)) X → X.cell? ⟨N, 0, none⟩ = some (.int .i64 (lim : Int)) ∧ X.cell? ⟨N, 1, none⟩ = some (.int .i64 (st : Int)) ∧ X.cell? ⟨N, 2, none⟩ = some (.string (str l))) := by
    intro X hX
    have h1 : X.heap[N]? = some (.cells #[.int .i64 (lim : Int), .int .i64 (st : Int), .string (str l)] 27 (0, 0)) := (hX.block N (by omega)).trans (by rw [hN]; exact hn0)
    exact ⟨cell_atT h1 0, cell_atT h1 1, cell_atT h1 2⟩
  have hLog : ∀ X, Below (N + 1) (w.alloc (.cells #[.int .i64 (lim : Int), .int .i64 (st : Int), .string (str l)] 27)) X → LogAt X b v lim e l := fun X hX => h.below (HCl X hX)
  have HNs : Hid (∀ X, Below (N + 1) (w.alloc (.cells #[.int .i64 (lim : Int), .int .i64 (st : Int), .string (str l)] 27)) X → N + 1 ≤ X.heap.size) := fun X hX => by
    have h1 := hX.size
    have h2 : (w.alloc (.cells #[.int .i64 (lim : Int), .int .i64 (st : Int), .string (str l)] 27)).heap.size = w.heap.size + 1 := by simp
    omega
  have HCl2 : Hid (∀ X, Below (N + 1) (w.alloc (.cells #[.int .i64 (lim : Int), .int .i64 (st : Int), .string (str l)] 27)) X → Below w.heap.size w X) := HCl
  obtain ⟨d, hd⟩ : ∃ d, str l = d := ⟨_, rfl⟩
  have HStart := fun X hX => (start_any (hLog X hX) hs)
  have HEnde := fun X hX => (ende_any (hLog X hX))
  have HLim := fun X hX => (limit_any (hLog X hX))
  have HAll := fun X hX => (all_any (hLog X hX) hs)
  have HREnd := fun X => refEnd_any lim st l e X hs hmost
  unfold refV at HREnd
  rw [hd] at HStart HEnde HLim HAll HREnd HX HNs HCl2 ⊢
  obtain ⟨W, hW⟩ : ∃ W, w.alloc (.cells #[.int .i64 (lim : Int), .int .i64 (st : Int), .string d] 27) = W := ⟨_, rfl⟩
  rw [hW] at HStart HEnde HLim HAll HX HNs HCl2
  have H1 : Hid (∀ X, Below (N + 1) W X → Calls Try.prog 9 #[.pointer (some ⟨b, 0, none⟩)] X fun x w' => x = .returned (.int .i64 st) ∧ Below (N + 1) W w') := fun X hX => (HStart X hX).mono fun _ _ ⟨h1, m, h2⟩ => ⟨h1, by rw [h2]; exact below_of_drewN hX m⟩
  have H2 : Hid (∀ X, Below (N + 1) W X → Calls Try.prog 12 #[.pointer (some ⟨b, 0, none⟩)] X fun x w' => x = .returned (.int .i64 e) ∧ Below (N + 1) W w') := fun X hX => (HEnde X hX).mono fun _ _ ⟨h1, h2⟩ => ⟨h1, by rw [h2]; exact hX⟩
  have H3 : Hid (∀ X, Below (N + 1) W X → Calls Try.prog 8 #[.pointer (some ⟨b, 0, none⟩)] X fun x w' => x = .returned (.int .i64 lim) ∧ Below (N + 1) W w') := fun X hX => (HLim X hX).mono fun _ _ ⟨h1, h2⟩ => ⟨h1, by rw [h2]; exact hX⟩
  have H4 : Hid (∀ X, Below (N + 1) W X → Calls Try.prog 10 #[.pointer (some ⟨b, 0, none⟩)] X fun x w' => x = .returned (.string d) ∧ Below (N + 1) W w') := fun X hX => (HAll X hX).mono fun _ _ ⟨h1, m, h2⟩ => ⟨h1, by rw [h2]; exact below_of_drewN hX m⟩
  have H5 : Hid (∀ X, Below (N + 1) W X → Calls Try.prog 24 #[.agg #[.int .i64 (lim : Int), .int .i64 (st : Int), .string d]] X fun x w' => x = .returned (.int .i64 e) ∧ Below (N + 1) W w') := fun X hX => (HREnd X).mono fun _ _ ⟨h1, h2⟩ => ⟨h1, by rw [h2]; exact hX.alloc (HNs.out X hX) _⟩
  have hWn : Hid (w.alloc (.cells #[.int .i64 (lim : Int), .int .i64 (st : Int), .string d] 27) = W) := hW
  have HNw : Hid (w.heap.size = N) := hN.symm
  clear HStart HEnde HLim HAll HREnd hd hLog HCl hn0 hb0 h hs hW hN
  go_enter Try.func11, Try.ntmps11
  go_wp2
  rw [hWn.out, HNw.out]
  refine wp_region_class (Below (N + 1) W) (by kernel_rfl) (by kernel_rfl) ((Below.refl _ _).drew) ?_
  repeat (
    refine quiet_take (v := ?_) (by rfl) (fun X hX => ?_) ?_
    rotate_left
    · obtain ⟨x0, x1, x2⟩ := HX.out X hX
      go_simp
      all_goals first | with_reducible rfl | with_reducible exact H1.out X hX | with_reducible exact H2.out X hX | with_reducible exact H3.out X hX | with_reducible exact H4.out X hX | with_reducible exact H5.out X hX
    intro K hK
    go_simp
    refine hK _ ?_
    clear hK K)
  refine wpQuiet_nil ?_
  intro w' hw'
  go_wp2
  go_ret
  exact ⟨rfl, HCl2.out _ hw'⟩

end Go.Proofs.Yteeakldeimhjjab
