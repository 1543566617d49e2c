/-
  Decode.
-/
import Derived.Test.YtplolaondmeccaaGreatDoorWRowE
import Derived.Test.YtplolaondmeccaaGreatDoorWKind
import Derived.WalkKit
namespace Go.Proofs.YtplolaondmeccaaGreatDoor
open Go.RowKit
set_option linter.unusedVariables false

/-- The event of a line that is none. -/
def badEv (l : List UInt8) : Ev := { Ev.zero 25 with text := str l }

theorem kindS_pos (l : List UInt8) : 1 ≤ kindS l ∧ kindS l ≤ 25 := by
  unfold kindS
  split
  · cases h : (List.range 25).find? (fun k => !(headOf k).isEmpty && (headOf k).isPrefixOf l) with
    | none => exact ⟨by decide, by decide⟩
    | some n =>
      have h1 := List.mem_range.1 (List.mem_of_find?_eq_some h)
      have h2 := List.find?_some h
      show 1 ≤ n ∧ n ≤ 25
      refine ⟨?_, by omega⟩
      rcases Nat.eq_zero_or_pos n with rfl | h3
      · simp [headOf] at h2
      · exact h3
  · exact ⟨by decide, by decide⟩

theorem decode_bad_walk (s : ByteArray) (hs : s.size ≤ lim) (w : World) (hE : Env w) (h : kindS s.data.toList = 25) :
    Calls Tryz.prog 19 #[.string s] w fun e w' => e = .returned (.agg #[.int .i64 25, .int .i64 0, .int .i64 0, .int .i64 0, .int .i64 0, .int .i64 0, .int .i64 0, .int .i64 0, .int .i64 0, .string ⟨#[]⟩, .string s, .string ⟨#[]⟩, .string ⟨#[]⟩, .bool false]) ∧ Below w.heap.size w w' := by
  have HK : Hid (∀ W, Env W → Calls Tryz.prog 31 #[.string s] W fun e w' => e = .returned (.int .i64 25) ∧ W = w') := fun W hW => by
    have := kindOf_any s W hW
    rw [h] at this
    exact this
  have HE : Hid (∀ o, Env (w.alloc o)) := fun o => hE.below (below1 w o)
  have HV : Hid (EvAt (w.alloc (.cells #[.int .i64 0, .int .i64 0, .int .i64 0, .int .i64 0, .int .i64 0, .int .i64 0, .int .i64 0, .int .i64 0, .int .i64 0, .string ⟨#[]⟩, .string ⟨#[]⟩, .string ⟨#[]⟩, .string ⟨#[]⟩, .bool false] 27)) w.heap.size (Ev.zero 0)) := EvAt.new w (Ev.zero 0)
  clear hE h
  go_enter Tryz.func19, Tryz.ntmps19
  go_wp2_with (first
    | (go_at_call 31; refine (HK.out _ (HE.out _)).mono ?_; rintro e w1 ⟨rfl, rfl⟩)
    | (go_at_call 14; refine (hasRow_any _ _).mono ?_; rintro e w1 ⟨rfl, rfl⟩)
    | (go_at_call 32; refine (clone_any _ _ hs).mono ?_; rintro e w1 ⟨rfl, hb1⟩; have y := HV.out.below hb1 HV.out.lt; obtain ⟨q0, q1, q2, q3, q4, q5, q6, q7, q8, q9, q10, q11, q12, q13⟩ := y.zcells; obtain ⟨f0, f1, f2, f3, f4, f5, f6, f7, f8, f9, f10, f11, f12, f13⟩ := y.frees; have HB : Hid (Below w.heap.size w w1) := below_step (below1 _ _) hb1; clear hb1 y))
  refine bodyPost_ret (v := .agg #[.int .i64 25, .int .i64 0, .int .i64 0, .int .i64 0, .int .i64 0, .int .i64 0, .int .i64 0, .int .i64 0, .int .i64 0, .string ⟨#[]⟩, .string s, .string ⟨#[]⟩, .string ⟨#[]⟩, .bool false]) (by simp [results, Tryz.results19, go_sem, q0, q1, q2, q3, q4, q5, q6, q7, q8, q9, q10, q11, q12, q13]) rfl ?_
  exact ⟨rfl, below14 HB.out (Nat.le_refl _) _ _ _ _ _ _ _ _ _ _ _ _ _ _⟩

set_option maxRecDepth 20000 in
set_option maxHeartbeats 1000000 in
theorem decode_in_walk (s : ByteArray) (hs : s.size ≤ lim) (w : World) (hE : Env w) (k : Nat) (h : kindS s.data.toList = k) (h1 : 1 ≤ k) (h2 : k ≤ 24) :
    Calls Tryz.prog 19 #[.string s] w fun e w' => (match readS k s.data.toList with
      | some ev => e = .returned (.agg ev.vals)
      | none => e = .returned (.agg #[.int .i64 25, .int .i64 0, .int .i64 0, .int .i64 0, .int .i64 0, .int .i64 0, .int .i64 0, .int .i64 0, .int .i64 0, .string ⟨#[]⟩, .string s, .string ⟨#[]⟩, .string ⟨#[]⟩, .bool false])) ∧ Below w.heap.size w w' := by
  have HK : Hid (∀ W, Env W → Calls Tryz.prog 31 #[.string s] W fun e w' => e = .returned (.int .i64 k) ∧ W = w') := fun W hW => by
    have := kindOf_any s W hW
    rw [h] at this
    exact this
  have hq : (decide ((0 : Int) < k) && decide ((k : Int) < 25)) = true := by simp; omega
  have HE : Hid (∀ o, Env (w.alloc o)) := fun o => hE.below (below1 w o)
  have HV : Hid (EvAt (w.alloc (.cells #[.int .i64 0, .int .i64 0, .int .i64 0, .int .i64 0, .int .i64 0, .int .i64 0, .int .i64 0, .int .i64 0, .int .i64 0, .string ⟨#[]⟩, .string ⟨#[]⟩, .string ⟨#[]⟩, .string ⟨#[]⟩, .bool false] 27)) w.heap.size (Ev.zero 0)) := EvAt.new w (Ev.zero 0)
  have HRow : Hid (∀ W, Env W → Calls Tryz.prog 15 #[.int .i64 k] W fun e w' => ∃ b, e = .returned (rowV k b) ∧ FieldsAt W.heap.size w' b (fieldsOf k) ∧ Below W.heap.size W w') := fun W hW => rowOf_any k h1 h2 W hW
  have HRd : Hid (∀ (B b : Nat) (W : World), Env W → FieldsAt B W b (fieldsOf k) → Calls Tryz.prog 17 #[rowV k b, .string s] W (ReadPost (readS k s.data.toList) W)) := fun B b W hW hF => read_any k h1 h2 s hs B b W hW hF
  obtain ⟨got, hgot⟩ : ∃ o, readS k s.data.toList = o := ⟨_, rfl⟩
  rw [hgot] at HRd ⊢
  unfold rowV at HRow HRd
  obtain ⟨fs, hfs⟩ : ∃ fs, fieldsOf k = fs := ⟨_, rfl⟩
  obtain ⟨hd, hhd⟩ : ∃ hd, headOf k = hd := ⟨_, rfl⟩
  rw [hfs, hhd] at HRow HRd
  obtain ⟨ln, hln⟩ : ∃ n, fs.length = n := ⟨_, rfl⟩
  rw [hln] at HRow HRd
  clear hgot hfs hhd hln hE h
  go_enter Tryz.func19, Tryz.ntmps19
  go_wp2_with (first
    | (go_at_call 31; refine (HK.out _ (HE.out _)).mono ?_; rintro e w1 ⟨rfl, rfl⟩)
    | (go_at_call 14; refine (hasRow_any _ _).mono ?_; rw [hq]; rintro e w1 ⟨rfl, rfl⟩))
  refine (HRow.out _ (HE.out _)).mono ?_
  rintro e w2 ⟨b, rfl, hf, hb⟩
  have HV2 : Hid (EvAt w2 w.heap.size (Ev.zero 0)) := HV.out.below hb HV.out.lt
  have HE2 : Hid (Env w2) := (HE.out _).below hb
  have HF2 : Hid (FieldsAt (w.alloc (.cells #[.int .i64 0, .int .i64 0, .int .i64 0, .int .i64 0, .int .i64 0, .int .i64 0, .int .i64 0, .int .i64 0, .int .i64 0, .string ⟨#[]⟩, .string ⟨#[]⟩, .string ⟨#[]⟩, .string ⟨#[]⟩, .bool false] 27)).heap.size w2 b fs) := hf
  have HB2 : Hid (Below w.heap.size w w2) := below_step (below1 _ _) hb
  clear hf hb HRow HE HV HK
  go_wp2_with fail
  refine (HRd.out _ b _ HE2.out HF2.out).mono ?_
  rintro e w3 ⟨he, hb3⟩
  have HV3 : Hid (EvAt w3 w.heap.size (Ev.zero 0)) := HV2.out.below hb3 HV2.out.lt
  have HB3 : Hid (Below w.heap.size w w3) := below_step HB2.out hb3
  obtain ⟨q0, q1, q2, q3, q4, q5, q6, q7, q8, q9, q10, q11, q12, q13⟩ := HV3.out.zcells
  obtain ⟨f0, f1, f2, f3, f4, f5, f6, f7, f8, f9, f10, f11, f12, f13⟩ := HV3.out.frees
  have hlt3 : w.heap.size < w3.heap.size := HV3.out.lt
  clear hb3 HRd HE2 HF2 HV2 HB2
  cases got with
  | some ev =>
    replace he : e = .returned (.tuple #[.agg #[.int .i64 ev.kind, .int .i64 ev.session, .int .i64 ev.window, .int .i64 ev.pane, .int .i64 ev.index, .int .i64 ev.offset, .int .i64 ev.tick, .int .i64 ev.number, .int .i64 ev.flag, .string ev.name, .string ev.text, .string ev.layout, .string ev.visible, .bool ev.zoom], .bool true]) := he
    subst he
    go_wp2
    refine bodyPost_ret (v := .agg #[.int .i64 ev.kind, .int .i64 ev.session, .int .i64 ev.window, .int .i64 ev.pane, .int .i64 ev.index, .int .i64 ev.offset, .int .i64 ev.tick, .int .i64 ev.number, .int .i64 ev.flag, .string ev.name, .string ev.text, .string ev.layout, .string ev.visible, .bool ev.zoom]) (by simp [results, Tryz.results19, go_sem, hlt3, q0, q1, q2, q3, q4, q5, q6, q7, q8, q9, q10, q11, q12, q13]) rfl ?_
    exact ⟨rfl, below_new (below14 HB3.out (Nat.le_refl _) _ _ _ _ _ _ _ _ _ _ _ _ _ _) (Nat.le_refl _) _⟩
  | none =>
    replace he : e = .returned (.tuple #[.agg #[.int .i64 0, .int .i64 0, .int .i64 0, .int .i64 0, .int .i64 0, .int .i64 0, .int .i64 0, .int .i64 0, .int .i64 0, .string ⟨#[]⟩, .string ⟨#[]⟩, .string ⟨#[]⟩, .string ⟨#[]⟩, .bool false], .bool false]) := he
    subst he
    clear q0 q1 q2 q3 q4 q5 q6 q7 q8 q9 q10 q11 q12 q13 f0 f1 f2 f3 f4 f5 f6 f7 f8 f9 f10 f11 f12 f13
    have HV4 : Hid (∀ o, EvAt (w3.alloc o) w.heap.size (Ev.zero 0)) := fun o => HV3.out.alloc o
    have HB4 : Hid (∀ o, Below w.heap.size w (w3.alloc o)) := fun o => below_new HB3.out (Nat.le_refl _) o
    clear HV3 HB3
    go_wp2_with (go_at_call 32; refine (clone_any _ _ hs).mono ?_; rintro e w4 ⟨rfl, hb4⟩; have y := (HV4.out _).below hb4 (HV4.out _).lt; obtain ⟨q0, q1, q2, q3, q4, q5, q6, q7, q8, q9, q10, q11, q12, q13⟩ := y.zcells; obtain ⟨f0, f1, f2, f3, f4, f5, f6, f7, f8, f9, f10, f11, f12, f13⟩ := y.frees; have HB : Hid (Below w.heap.size w w4) := below_step (HB4.out _) hb4; clear hb4 y)
    refine bodyPost_ret (v := .agg #[.int .i64 25, .int .i64 0, .int .i64 0, .int .i64 0, .int .i64 0, .int .i64 0, .int .i64 0, .int .i64 0, .int .i64 0, .string ⟨#[]⟩, .string s, .string ⟨#[]⟩, .string ⟨#[]⟩, .bool false]) (by simp [results, Tryz.results19, go_sem, q0, q1, q2, q3, q4, q5, q6, q7, q8, q9, q10, q11, q12, q13]) rfl ?_
    exact ⟨rfl, below14 HB.out (Nat.le_refl _) _ _ _ _ _ _ _ _ _ _ _ _ _ _⟩

theorem decode_any (s : ByteArray) (hs : s.size ≤ lim) (w : World) (hE : Env w) :
    Calls Tryz.prog 19 #[.string s] w fun e w' => e = .returned (.agg (decS s.data.toList).vals) ∧ Below w.heap.size w w' := by
  have hp := kindS_pos s.data.toList
  by_cases h : kindS s.data.toList = 25
  · refine (decode_bad_walk s hs w hE h).mono fun e w' ⟨a1, a2⟩ => ⟨?_, a2⟩
    rw [a1]
    unfold decS
    rw [if_pos h]
    rfl
  · refine (decode_in_walk s hs w hE _ rfl hp.1 (by omega)).mono fun e w' ⟨a1, a2⟩ => ⟨?_, a2⟩
    unfold decS
    rw [if_neg h]
    cases hr : readS (kindS s.data.toList) s.data.toList with
    | none => rw [hr] at a1; rw [a1]; rfl
    | some ev => rw [hr] at a1; rw [a1]; rfl

end Go.Proofs.YtplolaondmeccaaGreatDoor
