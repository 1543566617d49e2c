/-
  Lines of commands: the reader's steps.
-/
import Derived.Test.YtghkhnnlhkdceaaXRead
import Derived.RegionTactic
import Derived.Deep.RegionWith
import Derived.Deep.QuietTactic
namespace Go.Proofs.Ytghkhnnlhkdceaa
open Go.RowKit
set_option linter.unusedVariables false
set_option maxRecDepth 100000

def nextI (s : ByteArray) (p : Nat) : Int := if h : p < s.size then (s[p].toNat : Int) else -1
theorem nextI_lt {s : ByteArray} {p : Nat} (h : p < s.size) : nextI s p = (s[p].toNat : Int) := by unfold nextI; rw [dif_pos h]
theorem nextI_end {s : ByteArray} {p : Nat} (h : ¬ p < s.size) : nextI s p = -1 := by unfold nextI; rw [dif_neg h]

theorem belowN {B : Nat} {w w' : World} (h : Below B w w') (n : Nat) : Below B w (w'.drewN n) := ⟨h.os, h.tape, h.output, h.size, h.block⟩
theorem BuilderIn.same {w w' : World} {B b o : Nat} {T : TypeId} {cs : Array Value} {v : Value} {l : List UInt8} (h : BuilderIn w B b o T cs v l) (hk : ∀ g, g < w.heap.size → w'.heap[g]? = w.heap[g]?) : BuilderIn w' B b o T cs v l :=
  ⟨(hk b (lt_block h.blk)).trans h.blk, h.adr, h.buf, h.own.keep fun g hg => hk g (World.ownsRow.lt h.own g hg).2, h.ty, h.lies⟩
theorem RdP.same {w0 w w' : World} {b : Nat} {s : ByteArray} {p : Nat} {l : List UInt8} {cmd : List (List UInt8)} {cmds : List (List (List UInt8))} {n : Nat} {ad buf vc vcs : Value} {vs : List Value} {Bc : Nat} (h : RdP w0 w b s p l cmd cmds n ad buf vc vcs vs Bc) (hb : Below w.heap.size w w') : RdP w0 w' b s p l cmd cmds n ad buf vc vcs vs Bc :=
  ⟨h.bld.same fun g hg => hb.block g hg, h.emp, h.cmd.keep fun g cur hg hh => hb.block g (lt_block hh), h.lo, Nat.le_trans h.hi hb.size, row24_keep h.row fun g cur _ hh => hb.block g (lt_block hh), h.rows.keep fun g cur _ hh => hb.block g (lt_block hh), h.at_, h.below.trans (hb.mono h.below.size), h.blk⟩
theorem Rd.same {w0 w w' : World} {b : Nat} {s : ByteArray} {p : Nat} {l : List UInt8} {cmd : List (List UInt8)} {cmds : List (List (List UInt8))} {n : Nat} (h : Rd w0 w b s p l cmd cmds n) (hb : Below w.heap.size w w') : Rd w0 w' b s p l cmd cmds n := by
  obtain ⟨ad, buf, vc, vcs, vs, Bc, h⟩ := h
  exact ⟨ad, buf, vc, vcs, vs, Bc, h.same hb⟩

set_option maxHeartbeats 1000000 in
theorem next_any {w0 w : World} {b : Nat} {s : ByteArray} {p : Nat} {l : List UInt8} {cmd : List (List UInt8)} {cmds : List (List (List UInt8))} {n : Nat} (h : Rd w0 w b s p l cmd cmds n) (hs : s.size ≤ 8192) :
    Calls Try.prog 13 #[.pointer (some ⟨b, 0, none⟩)] w fun e w' => e = .returned (.int .i64 (nextI s p)) ∧ Rd w0 w' b s p l cmd cmds n := by
  obtain ⟨ad, buf, vc, vcs, vs, Bc, hP⟩ := h
  have HR : Hid (∀ w', Below w.heap.size w w' → Rd w0 w' b s p l cmd cmds n) := fun w' hb => ⟨ad, buf, vc, vcs, vs, Bc, hP.same hb⟩
  have c0 : w.cell? ⟨b, 0, none⟩ = some (.string s) := cell_at hP.bld.blk 0
  have c1 : w.cell? ⟨b, 1, none⟩ = some (.int .i64 p) := cell_at hP.bld.blk 1
  have hp := hP.at_
  clear hP
  have HB1 : Hid (∀ k, Rd w0 (w.drewN k) b s p l cmd cmds n) := fun k => HR.out _ (belowN (Below.refl _ _) k)
  have HB2 : Hid (∀ k m, Rd w0 ((w.drewN k).drewN m) b s p l cmd cmds n) := fun k m => HR.out _ (belowN (belowN (Below.refl _ _) k) m)
  clear HR
  by_cases hlt : p < s.size
  · rw [nextI_lt hlt]
    have hw : IntKind.i64.wrap (s[p].toNat : Int) = (s[p].toNat : Int) := by
      have := UInt8.toNat_lt s[p]
      rw [IntKind.wrap_i64]
      omega
    have e1 : ((p : Int) == (s.size : Int)) = false := by
      have : (p : Int) ≠ (s.size : Int) := by omega
      simpa using this
    go_enter Try.func13, Try.ntmps13
    go_wp2
    go_quiet (fail)
    go_wp2
    go_quiet (fail)
    go_wp2
    go_ret
    exact ⟨by first | rfl | (rw [hw]; rfl), HB2.out _ _⟩
  · rw [nextI_end hlt]
    have e1 : (p : Int) = (s.size : Int) := by omega
    go_enter Try.func13, Try.ntmps13
    go_wp2
    go_quiet (fail)
    go_wp2
    go_ret
    exact ⟨rfl, HB1.out _⟩

set_option maxHeartbeats 1000000 in
theorem skip_any {w0 w : World} {b : Nat} {s : ByteArray} {p : Nat} {l : List UInt8} {cmd : List (List UInt8)} {cmds : List (List (List UInt8))} {n : Nat} (h : Rd w0 w b s p l cmd cmds n) (hs : s.size ≤ 8192) (hlt : p < s.size) :
    Calls Try.prog 14 #[.pointer (some ⟨b, 0, none⟩)] w fun e w' => e = .returned (.int .i64 (s[p].toNat : Int)) ∧ Rd w0 w' b s (p + 1) l cmd cmds n := by
  have HN : Hid (Calls Try.prog 13 #[.pointer (some ⟨b, 0, none⟩)] w fun e w' => e = .returned (.int .i64 (s[p].toNat : Int)) ∧ Rd w0 w' b s p l cmd cmds n) := by
    have := next_any h hs
    rw [nextI_lt hlt] at this
    exact this
  have hw : IntKind.i64.wrap ((p : Int) + 1) = ((p + 1 : Nat) : Int) := by rw [IntKind.wrap_i64]; omega
  clear h
  go_enter Try.func14, Try.ntmps14
  go_wp2_with fail
  refine HN.out.mono ?_
  rintro e w1 ⟨rfl, ad, buf, vc, vcs, vs, Bc, hP⟩
  have c1 : w1.cell? ⟨b, 1, none⟩ = some (.int .i64 p) := cell_at hP.bld.blk 1
  have f1 : w1.frozen? ⟨b, 1, none⟩ = false := free_at hP.bld.blk 1
  have HR : Hid (Rd w0 (w1.setCell ⟨b, 1, none⟩ (.int .i64 ((p + 1 : Nat) : Int))) b s (p + 1) l cmd cmds n) := by
    refine hP.turn ((But.refl (b :: buf.ownBlock.toList) w1).setCell (p := ⟨b, 1, none⟩) (.inl List.mem_cons_self) _) (ad' := ad) (buf' := buf) ?_ hP.emp (by omega)
    exact ⟨set_at hP.bld.blk 1 _, hP.bld.adr, hP.bld.buf, hP.bld.own.keep fun g hg => Below.heap_setCell _ _ _ _ (fun e => hP.bld.apart (by rw [hg, e])), hP.bld.ty, hP.bld.lies⟩
  clear hP HN
  go_wp2
  go_ret
  exact ⟨rfl, HR.out⟩

theorem Rd.byte {w0 w : World} {b : Nat} {s : ByteArray} {p : Nat} {l : List UInt8} {cmd : List (List UInt8)} {cmds : List (List (List UInt8))} {n : Nat} (c : UInt8) (h : Rd w0 w b s p l cmd cmds n) (hl : l.length ≤ 8192) :
    Calls Try.prog 25 #[.pointer (some ⟨b, 2, none⟩), .int .u8 c.toNat] w fun e w' => e = .returned .nilIface ∧ Rd w0 w' b s p (l ++ [c]) cmd cmds n := by
  obtain ⟨ad, buf, vc, vcs, vs, Bc, hP⟩ := h
  refine (writeByte_in c hP.bld hP.below.size (by omega)).mono ?_
  rintro e w' ⟨rfl, v', h1, h2⟩
  exact ⟨rfl, hP.turn h2 h1 (fun e => by simp at e) hP.at_⟩

set_option maxHeartbeats 1000000 in
theorem take_any {w0 w : World} {b : Nat} {s : ByteArray} {p : Nat} {l : List UInt8} {cmd : List (List UInt8)} {cmds : List (List (List UInt8))} {n : Nat} (h : Rd w0 w b s p l cmd cmds n) (hs : s.size ≤ 8192) (hlt : p < s.size) (hl : l.length ≤ 8192) :
    Calls Try.prog 19 #[.pointer (some ⟨b, 0, none⟩)] w fun e w' => e = .returned (.tuple #[]) ∧ Rd w0 w' b s (p + 1) (l ++ [s[p]]) cmd cmds n := by
  have HW : Hid (∀ X, Below w.heap.size w X → Calls Try.prog 25 #[.pointer (some ⟨b, 2, none⟩), .int .u8 s[p].toNat] X fun e w' => e = .returned .nilIface ∧ Rd w0 w' b s p (l ++ [s[p]]) cmd cmds n) := fun X hX => (h.same hX).byte s[p] hl
  obtain ⟨ad, buf, vc, vcs, vs, Bc, hP⟩ := h
  have c0 : w.cell? ⟨b, 0, none⟩ = some (.string s) := cell_at hP.bld.blk 0
  have c1 : w.cell? ⟨b, 1, none⟩ = some (.int .i64 p) := cell_at hP.bld.blk 1
  have hw : IntKind.i64.wrap ((p : Int) + 1) = ((p + 1 : Nat) : Int) := by rw [IntKind.wrap_i64]; omega
  clear hP
  go_enter Try.func19, Try.ntmps19
  go_wp2
  go_region_with (go_at_call 25; refine (HW.out _ (by first | exact (Below.refl _ _).drew | exact belowN (Below.refl _ _) _)).mono ?_; rintro e w1 ⟨rfl, ad1, buf1, vc1, vcs1, vs1, Bc1, hP⟩)
  all_goals (
    have c1 : w1.cell? ⟨b, 1, none⟩ = some (.int .i64 p) := cell_at hP.bld.blk 1
    have f1 : w1.frozen? ⟨b, 1, none⟩ = false := free_at hP.bld.blk 1
    have HR : Hid (Rd w0 (w1.setCell ⟨b, 1, none⟩ (.int .i64 ((p + 1 : Nat) : Int))) b s (p + 1) (l ++ [s[p]]) cmd cmds n) := by
      refine hP.turn ((But.refl (b :: buf1.ownBlock.toList) w1).setCell (p := ⟨b, 1, none⟩) (.inl List.mem_cons_self) _) (ad' := ad1) (buf' := buf1) ?_ hP.emp (by omega)
      exact ⟨set_at hP.bld.blk 1 _, hP.bld.adr, hP.bld.buf, hP.bld.own.keep fun g hg => Below.heap_setCell _ _ _ _ (fun e => hP.bld.apart (by rw [hg, e])), hP.bld.ty, hP.bld.lies⟩
    clear hP HW
    go_wp2
    go_end0
    exact ⟨rfl, HR.out⟩)

end Go.Proofs.Ytghkhnnlhkdceaa
