/-
  Encode.
-/
import Derived.Test.YtplolaondmeccaaGreatDoorWRowE
import Derived.Test.YtplolaondmeccaaGreatDoorWKind
import Derived.Test.YtplolaondmeccaaGreatDoorWEq
import Derived.WalkKit
namespace Go.Proofs.YtplolaondmeccaaGreatDoor
open Go.RowKit
set_option linter.unusedVariables false

/-- What Encode answers. -/
def EncPost (o : Option (List UInt8)) (w : World) (e : Ending) (w' : World) : Prop :=
  (match o with
    | some l => e = .returned (.tuple #[.string (str l), .int .i64 0])
    | none => e = .returned (.tuple #[.string ⟨#[]⟩, .int .i64 30])) ∧ Below w.heap.size w w'

theorem encS_out (ev : Ev) (h : ¬ (0 < ev.kind ∧ ev.kind < 25)) : encS ev = none := by
  unfold encS
  rw [if_neg]
  rintro ⟨h1, h2, _⟩
  exact h ⟨h1, h2⟩
theorem encS_yes (ev : Ev) (k : Nat) (hk : ev.kind = k) (h1 : 1 ≤ k) (h2 : k ≤ 24) (h : readS k (writeS k ev) = some ev) : encS ev = some (writeS k ev) := by
  have e : ev.kind.toNat = k := by omega
  unfold encS
  rw [e, if_pos ⟨by omega, by omega, h⟩]
theorem encS_no (ev : Ev) (k : Nat) (hk : ev.kind = k) (h : readS k (writeS k ev) ≠ some ev) : encS ev = none := by
  have e : ev.kind.toNat = k := by omega
  unfold encS
  rw [e, if_neg (fun ⟨_, _, h3⟩ => h h3)]

theorem encode_out (ev : Ev) (w : World) (h : ¬ (0 < ev.kind ∧ ev.kind < 25)) (hb : Below w.heap.size w w) :
    Calls Tryz.prog 8 #[.agg ev.vals] w (EncPost none w) := by
  obtain ⟨k, a1, a2, a3, a4, a5, a6, a7, a8, a9, a10, a11, a12, a13⟩ := ev
  have hq : (decide (0 < k) && decide (k < 25)) = false := by
    rw [← Bool.decide_and]
    exact decide_eq_false h
  clear h
  unfold Ev.vals
  go_enter Tryz.func8, Tryz.ntmps8
  go_wp2_with (go_at_call 14; refine (hasRow_any _ _).mono ?_; rw [hq]; rintro e w1 ⟨rfl, rfl⟩)
  go_ret2
  exact ⟨rfl, below1 _ _⟩

theorem vals_kind_nat (ev : Ev) (k : Nat) (h : ev.kind = k) : ev.vals = #[.int .i64 k, .int .i64 ev.session, .int .i64 ev.window, .int .i64 ev.pane, .int .i64 ev.index, .int .i64 ev.offset, .int .i64 ev.tick, .int .i64 ev.number, .int .i64 ev.flag, .string ev.name, .string ev.text, .string ev.layout, .string ev.visible, .bool ev.zoom] := by rw [← h]; rfl

theorem encode_in (ev : Ev) (k : Nat) (hk : ev.kind = k) (h1 : 1 ≤ k) (h2 : k ≤ 24) (hfit : ev.Fits) (w : World) (hE : Env w) :
    Calls Tryz.prog 8 #[.agg ev.vals] w (EncPost (encS ev) w) := by
  have hq : (decide ((0 : Int) < k) && decide ((k : Int) < 25)) = true := by simp; omega
  have hvals := vals_kind_nat ev k hk
  have HV : Hid (EvAt (w.alloc (.cells #[.int .i64 k, .int .i64 ev.session, .int .i64 ev.window, .int .i64 ev.pane, .int .i64 ev.index, .int .i64 ev.offset, .int .i64 ev.tick, .int .i64 ev.number, .int .i64 ev.flag, .string ev.name, .string ev.text, .string ev.layout, .string ev.visible, .bool ev.zoom] 27)) w.heap.size ev) := by
    have := EvAt.new w ev
    rw [hvals] at this
    exact this
  have HRow : Hid (∀ W, Env W → Calls Tryz.prog 15 #[.int .i64 k] W fun e w' => ∃ b, e = .returned (rowV k b) ∧ FieldsAt W.heap.size w' b (fieldsOf k) ∧ Below W.heap.size W w') := fun W hW => rowOf_any k h1 h2 W hW
  have HE1 : Hid (Env (w.alloc (.cells #[.int .i64 k, .int .i64 ev.session, .int .i64 ev.window, .int .i64 ev.pane, .int .i64 ev.index, .int .i64 ev.offset, .int .i64 ev.tick, .int .i64 ev.number, .int .i64 ev.flag, .string ev.name, .string ev.text, .string ev.layout, .string ev.visible, .bool ev.zoom] 27))) := hE.below (below1 _ _)
  have HWr : Hid (∀ (B b : Nat) (W : World), Env W → FieldsAt B W b (fieldsOf k) → Calls Tryz.prog 16 #[rowV k b, .agg ev.vals] W fun e w' => e = .returned (.string (str (writeS k ev))) ∧ Below W.heap.size W w') := fun B b W hW hF => write_any k h1 h2 ev hfit B b W hW hF
  have HRd : Hid (∀ (B b : Nat) (W : World), Env W → FieldsAt B W b (fieldsOf k) → Calls Tryz.prog 17 #[rowV k b, .string (str (writeS k ev))] W (ReadPost (readS k (writeS k ev)) W)) := fun B b W hW hF => by
    have := read_any k h1 h2 (str (writeS k ev)) (by rw [str_size]; exact write_length k h1 h2 ev hfit) B b W hW hF
    rw [str_data] at this
    exact this
  have HY : Hid (readS k (writeS k ev) = some ev → encS ev = some (writeS k ev)) := encS_yes ev k hk h1 h2
  have HN : Hid (readS k (writeS k ev) ≠ some ev → encS ev = none) := encS_no ev k hk
  unfold rowV at HRow HWr HRd
  rw [hvals] at HWr ⊢
  obtain ⟨line, hline⟩ : ∃ l, writeS k ev = l := ⟨_, rfl⟩
  rw [hline] at HWr HRd HY HN
  obtain ⟨got, hgot⟩ : ∃ o, readS k line = o := ⟨_, rfl⟩
  rw [hgot] at HRd HY HN
  obtain ⟨fs, hfs⟩ : ∃ fs, fieldsOf k = fs := ⟨_, rfl⟩
  obtain ⟨hd, hhd⟩ : ∃ hd, headOf k = hd := ⟨_, rfl⟩
  rw [hfs, hhd] at HRow HWr HRd
  obtain ⟨ln, hln⟩ : ∃ n, fs.length = n := ⟨_, rfl⟩
  rw [hln] at HRow HWr HRd
  have HK : Hid (ev.kind = k) := hk
  have HVals : Hid (ev.vals = #[.int .i64 k, .int .i64 ev.session, .int .i64 ev.window, .int .i64 ev.pane, .int .i64 ev.index, .int .i64 ev.offset, .int .i64 ev.tick, .int .i64 ev.number, .int .i64 ev.flag, .string ev.name, .string ev.text, .string ev.layout, .string ev.visible, .bool ev.zoom]) := hvals
  clear hvals hline hgot hfs hhd hln hE hk
  go_enter Tryz.func8, Tryz.ntmps8
  go_wp2_with (go_at_call 14; refine (hasRow_any _ _).mono ?_; rw [hq]; rintro e w1 ⟨rfl, rfl⟩)
  refine (HRow.out _ HE1.out).mono ?_
  rintro e w2 ⟨b, rfl, hf, hb⟩
  have HV2 : Hid (EvAt w2 w.heap.size ev) := HV.out.below hb HV.out.lt
  have HE2 : Hid (Env (w2.alloc (.cells #[.int .i64 k, .string (str hd), .slice (some ⟨b, 0, none⟩) ln ln] 45))) := (HE1.out.below hb).below (below1 _ _)
  have HF2 : Hid (FieldsAt (w.alloc (.cells #[.int .i64 k, .int .i64 ev.session, .int .i64 ev.window, .int .i64 ev.pane, .int .i64 ev.index, .int .i64 ev.offset, .int .i64 ev.tick, .int .i64 ev.number, .int .i64 ev.flag, .string ev.name, .string ev.text, .string ev.layout, .string ev.visible, .bool ev.zoom] 27)).heap.size (w2.alloc (.cells #[.int .i64 k, .string (str hd), .slice (some ⟨b, 0, none⟩) ln ln] 45)) b fs) := hf.since (Since.of_below (below1 _ _)) (Nat.le_refl _)
  have HB2 : Hid (Below w.heap.size w w2) := below_step (below1 _ _) hb
  obtain ⟨e0, e1, e2, e3, e4, e5, e6, e7, e8, e9, e10, e11, e12, e13⟩ := HV2.out.cells
  rw [HK.out] at e0
  clear hf hb HRow HE1 HV
  have hlt2 : w.heap.size < w2.heap.size := HV2.out.lt
  have HRB : Hid ((w2.alloc (.cells #[.int .i64 k, .string (str hd), .slice (some ⟨b, 0, none⟩) ln ln] 45)).heap[w2.heap.size]? = some (.cells #[.int .i64 k, .string (str hd), .slice (some ⟨b, 0, none⟩) ln ln] 45 (0, 0))) := heap_alloc_new w2 _
  have HV3 : Hid (EvAt (w2.alloc (.cells #[.int .i64 k, .string (str hd), .slice (some ⟨b, 0, none⟩) ln ln] 45)) w.heap.size ev) := HV2.out.alloc _
  go_wp2_with fail
  refine (HWr.out _ b _ HE2.out HF2.out).mono ?_
  rintro e w4 ⟨rfl, hb4⟩
  have hrb := (hb4.block w2.heap.size (lt_of_block HRB.out)).trans HRB.out
  have r0 := cell_at hrb 0
  have r1 := cell_at hrb 1
  have r2 := cell_at hrb 2
  simp at r0 r1 r2
  have HV4 : Hid (EvAt w4 w.heap.size ev) := HV3.out.below hb4 HV3.out.lt
  have HE4 : Hid (Env w4) := HE2.out.below hb4
  have HF4 : Hid (FieldsAt (w.alloc (.cells #[.int .i64 k, .int .i64 ev.session, .int .i64 ev.window, .int .i64 ev.pane, .int .i64 ev.index, .int .i64 ev.offset, .int .i64 ev.tick, .int .i64 ev.number, .int .i64 ev.flag, .string ev.name, .string ev.text, .string ev.layout, .string ev.visible, .bool ev.zoom] 27)).heap.size w4 b fs) := HF2.out.since (Since.of_below hb4) (Nat.le_refl _)
  have HB4 : Hid (Below w.heap.size w w4) := below_step (below_step HB2.out (below1 _ _)) hb4
  clear hb4 hrb HWr HE2 HF2 HV2 HV3 HRB HB2 e0 e1 e2 e3 e4 e5 e6 e7 e8 e9 e10 e11 e12 e13
  go_wp2_with fail
  refine (HRd.out _ b _ HE4.out HF4.out).mono ?_
  rintro e w5 ⟨he, hb5⟩
  have HV5 : Hid (EvAt w5 w.heap.size ev) := HV4.out.below hb5 HV4.out.lt
  obtain ⟨g0, g1, g2, g3, g4, g5, g6, g7, g8, g9, g10, g11, g12, g13⟩ := HV5.out.cells
  rw [HK.out] at g0
  have hlt5 : w.heap.size < w5.heap.size := HV5.out.lt
  have HB5 : Hid (Below w.heap.size w w5) := below_step HB4.out hb5
  clear hb5 HRd HE4 HF4 HV4 HB4 r0 r1 r2
  cases got with
  | none =>
    replace he : e = .returned (.tuple #[.agg #[.int .i64 0, .int .i64 0, .int .i64 0, .int .i64 0, .int .i64 0, .int .i64 0, .int .i64 0, .int .i64 0, .int .i64 0, .string ⟨#[]⟩, .string ⟨#[]⟩, .string ⟨#[]⟩, .string ⟨#[]⟩, .bool false], .bool false]) := he
    subst he
    have HO : Hid (encS ev = none) := HN.out (by simp)
    go_wp2
    go_ret2
    unfold EncPost
    rw [HO.out]
    exact ⟨rfl, below_new HB5.out (Nat.le_refl _) _⟩
  | some back =>
    replace he : e = .returned (.tuple #[.agg #[.int .i64 back.kind, .int .i64 back.session, .int .i64 back.window, .int .i64 back.pane, .int .i64 back.index, .int .i64 back.offset, .int .i64 back.tick, .int .i64 back.number, .int .i64 back.flag, .string back.name, .string back.text, .string back.layout, .string back.visible, .bool back.zoom], .bool true]) := he
    subst he
    have hEq : ∀ W : World, (Op.equalIn 10000 27 (.agg #[.int .i64 back.kind, .int .i64 back.session, .int .i64 back.window, .int .i64 back.pane, .int .i64 back.index, .int .i64 back.offset, .int .i64 back.tick, .int .i64 back.number, .int .i64 back.flag, .string back.name, .string back.text, .string back.layout, .string back.visible, .bool back.zoom]) (.agg #[.int .i64 k, .int .i64 ev.session, .int .i64 ev.window, .int .i64 ev.pane, .int .i64 ev.index, .int .i64 ev.offset, .int .i64 ev.tick, .int .i64 ev.number, .int .i64 ev.flag, .string ev.name, .string ev.text, .string ev.layout, .string ev.visible, .bool ev.zoom])).run Tryz.prog W = .ok (evEq back ev) W := fun W => by
      have := eqEv back ev W
      rw [HVals.out] at this
      exact this
    cases hb : evEq back ev
    · have HO : Hid (encS ev = none) := HN.out (fun h => by
        cases h
        rw [(evEq_iff ev ev).2 rfl] at hb
        cases hb)
      rw [hb] at hEq
      clear hb
      go_wp2
      go_ret2
      unfold EncPost
      rw [HO.out]
      exact ⟨rfl, below_new HB5.out (Nat.le_refl _) _⟩
    · have HO : Hid (encS ev = some line) := HY.out (by rw [(evEq_iff back ev).1 hb])
      rw [hb] at hEq
      clear hb
      go_wp2
      go_ret2
      unfold EncPost
      rw [HO.out]
      exact ⟨rfl, below_new HB5.out (Nat.le_refl _) _⟩

theorem encode_any (ev : Ev) (hfit : ev.Fits) (w : World) (hE : Env w) : Calls Tryz.prog 8 #[.agg ev.vals] w (EncPost (encS ev) w) := by
  by_cases h : 0 < ev.kind ∧ ev.kind < 25
  · exact encode_in ev ev.kind.toNat (by omega) (by omega) (by omega) hfit w hE
  · rw [encS_out ev h]
    exact encode_out ev w h (Below.refl _ _)

end Go.Proofs.YtplolaondmeccaaGreatDoor
