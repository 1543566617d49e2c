/-
  Lines of commands: the reader's steps that look ahead, and those that end a word or a command.
-/
import Derived.Test.YtghkhnnlhkdceaaXEsc
namespace Go.Proofs.Ytghkhnnlhkdceaa
open Go.RowKit
set_option linter.unusedVariables false
set_option maxRecDepth 100000

theorem drop_str (s : ByteArray) (p : Nat) : (s.extract p s.size).data.toList = s.data.toList.drop p := by
  rw [Lib.extract_data, List.take_of_length_le (by simp)]

set_option maxHeartbeats 2000000 in
theorem isRemark_any {w0 w : World} {b : Nat} {s : ByteArray} {p : Nat} {l : List UInt8} {cmd : List (List UInt8)} {cmds : List (List (List UInt8))} {n : Nat} (h : Rd w0 w b s p l cmd cmds n) (hs : s.size ≤ 8192) :
    Calls Try.prog 16 #[.pointer (some ⟨b, 0, none⟩)] w fun e w' => e = .returned (.bool (!Lib.hasPrefix (s.data.toList.drop p) [35, 123])) ∧ Rd w0 w' b s p l cmd cmds n := by
  obtain ⟨hp, hPX⟩ : ∃ x, Lib.hasPrefix (s.data.toList.drop p) [35, 123] = x := ⟨_, rfl⟩
  have HH : Hid (∀ X, Calls Try.prog 21 #[.string (s.extract p s.size), .string ⟨#[35, 123]⟩] X fun e w' => e = .returned (.bool hp) ∧ X = w') := fun X => by
    refine (Try.strings_HasPrefix _ _ X).mono ?_
    rintro e w' ⟨rfl, rfl⟩
    rw [drop_str, ← hPX]
    exact ⟨rfl, rfl⟩
  rw [hPX]
  have HR : Hid (∀ w', Below w.heap.size w w' → Rd w0 w' b s p l cmd cmds n) := fun w' hb => h.same hb
  obtain ⟨ad, buf, vc, vcs, vs, Bc, hP⟩ := h
  have c0 : w.cell? ⟨b, 0, none⟩ = some (.string s) := cell_at hP.bld.blk 0
  have c1 : w.cell? ⟨b, 1, none⟩ = some (.int .i64 p) := cell_at hP.bld.blk 1
  have hp' := hP.at_
  clear hP hPX
  go_enter Try.func16, Try.ntmps16
  go_wp2
  go_region_with (go_at_call 21; refine (HH.out _).mono ?_; rintro e w1 ⟨rfl, rfl⟩)
  all_goals (
    go_wp2
    go_ret
    exact ⟨rfl, HR.out _ (by first | exact (Below.refl _ _).drew | exact belowN (Below.refl _ _) _)⟩)

set_option maxHeartbeats 2000000 in
theorem takeEscaped_any {w0 w : World} {b : Nat} {s : ByteArray} {p : Nat} {l : List UInt8} {cmd : List (List UInt8)} {cmds : List (List (List UInt8))} {n : Nat} (h : Rd w0 w b s p l cmd cmds n) (hs : s.size ≤ 8192) (hlt : p < s.size) (hl : l.length ≤ 8192) (v : UInt8) (k : Nat) (hE : escF (s.data.toList.drop p) = (v, k)) (hk : p + k ≤ s.size) :
    Calls Try.prog 24 #[.pointer (some ⟨b, 0, none⟩)] w fun e w' => e = .returned (.tuple #[]) ∧ Rd w0 w' b s (p + k) (l ++ [v]) cmd cmds n := by
  have HE : Hid (∀ X, Calls Try.prog 28 #[.string (s.extract p s.size)] X fun e w' => e = .returned (.tuple #[.int .u8 (v.toNat : Int), .int .i64 (k : Int)]) ∧ X = w') := fun X => by
    have := escaped_any (s.extract p s.size) X (by rw [ByteArray.size_extract]; omega)
    rw [drop_str, hE] at this
    exact this
  have HW : Hid (∀ X, Below w.heap.size w X → Calls Try.prog 25 #[.pointer (some ⟨b, 2, none⟩), .int .u8 v.toNat] X fun e w' => e = .returned .nilIface ∧ Rd w0 w' b s p (l ++ [v]) cmd cmds n) := fun X hX => (h.same hX).byte v hl
  obtain ⟨ad, buf, vc, vcs, vs, Bc, hP⟩ := h
  have c0 : w.cell? ⟨b, 0, none⟩ = some (.string s) := cell_at hP.bld.blk 0
  have c1 : w.cell? ⟨b, 1, none⟩ = some (.int .i64 p) := cell_at hP.bld.blk 1
  have hw : IntKind.i64.wrap ((p : Int) + (k : Int)) = ((p + k : Nat) : Int) := by rw [IntKind.wrap_i64]; omega
  clear hP hE
  go_enter Try.func24, Try.ntmps24
  go_wp2
  go_region_with (go_at_call 28; refine (HE.out _).mono ?_; rintro e w1 ⟨rfl, rfl⟩)
  all_goals (
    go_wp2_with fail
    refine (HW.out _ (by first | exact (Below.refl _ _).drew | exact belowN (Below.refl _ _) _)).mono ?_
    rintro e w1 ⟨rfl, ad1, buf1, vc1, vcs1, vs1, Bc1, hP⟩
    have c1 : w1.cell? ⟨b, 1, none⟩ = some (.int .i64 p) := cell_at hP.bld.blk 1
    have f1 : w1.frozen? ⟨b, 1, none⟩ = false := free_at hP.bld.blk 1
    have HR : Hid (Rd w0 (w1.setCell ⟨b, 1, none⟩ (.int .i64 ((p + k : Nat) : Int))) b s (p + k) (l ++ [v]) cmd cmds n) := by
      refine hP.turn ((But.refl (b :: buf1.ownBlock.toList) w1).setCell (p := ⟨b, 1, none⟩) (.inl List.mem_cons_self) _) (ad' := ad1) (buf' := buf1) ?_ hP.emp (by omega)
      exact ⟨set_at hP.bld.blk 1 _, hP.bld.adr, hP.bld.buf, hP.bld.own.keep fun g hg => Below.heap_setCell _ _ _ _ (fun e => hP.bld.apart (by rw [hg, e])), hP.bld.ty, hP.bld.lies⟩
    clear hP HW
    go_wp2
    go_end0
    exact ⟨rfl, HR.out⟩)

end Go.Proofs.Ytghkhnnlhkdceaa
