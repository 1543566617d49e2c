/-
  The tail: piece, whole, All.
-/
import Derived.Test.YteeakldeimhjjabTRead
import Derived.WalkKit
import Derived.BigQuiet
import Derived.Deep.QuietTactic
namespace Go.Proofs.Yteeakldeimhjjab
open Go.RowKit
set_option linter.unusedVariables false
set_option maxRecDepth 20000

theorem piece_some {b g o cap : Nat} {lim e s : Nat} {l : List UInt8} {w : World} (h : LogAt w b (.slice (some ⟨g, o, none⟩) l.length cap) lim e l) (hs : s + l.length = e) (hcap : l.length ≤ cap) (hmax : cap ≤ 9223372036854775807) (f t a k : Nat) (hf : f = s + a) (ht : t = f + k) (hk : a + k ≤ l.length) :
    Calls Try.prog 26 #[.pointer (some ⟨b, 0, none⟩), .int .i64 f, .int .i64 t] w fun x w' => x = .returned (.slice (some (if k = 0 then ⟨g, o, none⟩ else ⟨g, o + a, none⟩)) k k) ∧ ∃ m, w' = w.drewN m := by
  have h2 := h.kept
  have h3 := h.most
  obtain ⟨n, hn⟩ : ∃ n, l.length = n := ⟨_, rfl⟩
  have HS : Hid (∀ W, LogAt W b (.slice (some ⟨g, o, none⟩) l.length cap) lim e l → Calls Try.prog 9 #[.pointer (some ⟨b, 0, none⟩)] W fun x w' => x = .returned (.int .i64 s) ∧ ∃ m, w' = W.drewN m) := fun W hW => start_any hW hs
  have HL : Hid (LogAt w b (.slice (some ⟨g, o, none⟩) l.length cap) lim e l) := h
  rw [hn] at h2 hs hk hcap
  have e1 : (f : Int) - (s : Int) = (a : Int) := by omega
  have e2 : (t : Int) - (s : Int) = ((a + k : Nat) : Int) := by omega
  have b1 : (f : Int) ≤ 9223372036854775807 := by omega
  have b2 : (t : Int) ≤ 9223372036854775807 := by omega
  have b3 : (s : Int) ≤ 9223372036854775807 := by omega
  have b4 : (a : Int) + (k : Int) ≤ (cap : Int) := by omega
  have b5 : (s : Int) ≤ (f : Int) := by omega
  have b6 : (s : Int) ≤ (t : Int) := by omega
  clear h hn hf ht hs
  go_enter Try.func26, Try.ntmps26
  go_wp2_with (go_at_call 9; refine (HS.out _ (by first | exact HL.out | exact HL.out.drewN _)).mono ?_; rintro x w1 ⟨rfl, m, rfl⟩)
  all_goals go_ret
  all_goals exact ⟨rfl, _, rfl⟩

theorem piece_none {b : Nat} {lim e : Nat} {w : World} (h : LogAt w b (.slice none 0 0) lim e []) :
    Calls Try.prog 26 #[.pointer (some ⟨b, 0, none⟩), .int .i64 e, .int .i64 e] w fun x w' => x = .returned (.slice none 0 0) ∧ ∃ m, w' = w.drewN m := by
  have h2 := h.kept
  have h3 := h.most
  have HS : Hid (∀ W, LogAt W b (.slice none 0 0) lim e [] → Calls Try.prog 9 #[.pointer (some ⟨b, 0, none⟩)] W fun x w' => x = .returned (.int .i64 e) ∧ ∃ m, w' = W.drewN m) := fun W hW => start_any hW (by simp)
  have HL : Hid (LogAt w b (.slice none 0 0) lim e []) := h
  have e1 : (e : Int) - (e : Int) = 0 := by omega
  have b1 : (e : Int) ≤ 9223372036854775807 := by omega
  clear h
  go_enter Try.func26, Try.ntmps26
  go_wp2_with (go_at_call 9; refine (HS.out _ (by first | exact HL.out | exact HL.out.drewN _)).mono ?_; rintro x w1 ⟨rfl, m, rfl⟩)
  all_goals go_ret
  all_goals exact ⟨rfl, _, rfl⟩

theorem slice_ext {a b c d : Nat} {v : Option Addr} (h1 : a = b) (h2 : c = d) : Value.slice v a c = .slice v b d := by rw [h1, h2]
/-- A piece of what is kept. -/
theorem piece_any {b : Nat} {v : Value} {lim e s : Nat} {l : List UInt8} {w : World} (h : LogAt w b v lim e l) (hs : s + l.length = e) (a k : Nat) (hk : a + k ≤ l.length) :
    ∃ vp, Bytes w vp ((l.drop a).take k) ∧ ∀ (n f t : Nat), f = s + a → t = f + k → Calls Try.prog 26 #[.pointer (some ⟨b, 0, none⟩), .int .i64 f, .int .i64 t] (w.drewN n) fun x w' => x = .returned vp ∧ ∃ m, w' = (w.drewN n).drewN m := by
  rcases h.bytes with ⟨rfl, rfl⟩ | ⟨g, o, cap, cur, rfl, hg, h1, h2, h3, h4⟩
  · simp at hk
    obtain ⟨rfl, rfl⟩ := hk
    refine ⟨.slice none 0 0, .inl ⟨rfl, rfl⟩, fun n f t hf ht => ?_⟩
    obtain rfl : f = e := by simp at hs; omega
    obtain rfl : t = f := by omega
    exact piece_none (h.drewN n)
  · refine ⟨.slice (some (if k = 0 then ⟨g, o, none⟩ else ⟨g, o + a, none⟩)) k k, ?_, fun n f t hf ht => piece_some (h.drewN n) hs h1 h2 f t a k hf ht hk⟩
    have hl : ((l.drop a).take k).length = k := by rw [List.length_take, List.length_drop]; omega
    by_cases h0 : k = 0
    · subst h0
      rw [if_pos rfl]
      exact .inr ⟨g, o, 0, cur, rfl, hg, Nat.le_refl _, by decide, by omega, fun j hj => by simp at hj⟩
    · rw [if_neg h0]
      refine .inr ⟨g, o + a, k, cur, slice_ext hl.symm rfl, hg, by omega, by omega, by omega, fun j hj => ?_⟩
      rw [hl] at hj
      rw [List.getElem_take, List.getElem_drop, Nat.add_assoc]
      exact h4 (a + j) (by omega)

theorem whole_any {b : Nat} {v : Value} {lim e s : Nat} {l : List UInt8} {w : World} (h : LogAt w b v lim e l) (hs : s + l.length = e) :
    ∃ vp, Bytes w vp l ∧ ∀ (n : Nat), Calls Try.prog 23 #[.pointer (some ⟨b, 0, none⟩)] (w.drewN n) fun x w' => x = .returned vp ∧ ∃ m, w' = (w.drewN n).drewN m := by
  obtain ⟨vp, hb, hc⟩ := piece_any h hs 0 l.length (by omega)
  refine ⟨vp, by simpa using hb, fun n => ?_⟩
  have h1 : (w.drewN n).cell? ⟨b, 1, none⟩ = some (.int .i64 e) := h.ende
  have HP : Hid (∀ n : Nat, Calls Try.prog 26 #[.pointer (some ⟨b, 0, none⟩), .int .i64 s, .int .i64 e] (w.drewN n) fun x w' => x = .returned vp ∧ ∃ m, w' = (w.drewN n).drewN m) := fun n => hc n s e rfl (by omega)
  have HS : Hid (∀ n, Calls Try.prog 9 #[.pointer (some ⟨b, 0, none⟩)] (w.drewN n) fun x w' => x = .returned (.int .i64 s) ∧ ∃ m, w' = (w.drewN n).drewN m) := fun n => start_any (h.drewN n) hs
  clear hc h hs hb
  obtain ⟨W, hW⟩ : ∃ W, w.drewN n = W := ⟨_, rfl⟩
  have HP2 : Hid (∀ n : Nat, Calls Try.prog 26 #[.pointer (some ⟨b, 0, none⟩), .int .i64 s, .int .i64 e] (W.drewN n) fun x w' => x = .returned vp ∧ ∃ m, w' = (W.drewN n).drewN m) := fun k => by
    have := HP.out (n + k)
    rw [← World.drewN_drewN, hW] at this
    exact this
  have HS2 : Hid (∀ k : Nat, Calls Try.prog 9 #[.pointer (some ⟨b, 0, none⟩)] (W.drewN k) fun x w' => x = .returned (.int .i64 s) ∧ ∃ m, w' = (W.drewN k).drewN m) := fun k => by
    have := HS.out (n + k)
    rw [← World.drewN_drewN, hW] at this
    exact this
  rw [hW] at h1 ⊢
  clear HP HS hW
  go_enter Try.func23, Try.ntmps23
  go_wp2
  go_quiet (first | (go_at_call 9; exact Calls.quiet_of (HS2.out _)) | (go_at_call 26; exact Calls.quiet_of (HP2.out _)))
  go_wp2
  go_ret
  exact ⟨rfl, _, rfl⟩

theorem all_any {b : Nat} {v : Value} {lim e s : Nat} {l : List UInt8} {w : World} (h : LogAt w b v lim e l) (hs : s + l.length = e) :
    Calls Try.prog 10 #[.pointer (some ⟨b, 0, none⟩)] w fun x w' => x = .returned (.string (str l)) ∧ ∃ m, w' = w.drewN m := by
  obtain ⟨vp, hb, hc⟩ := whole_any h hs
  have H0 : Hid (Calls Try.prog 23 #[.pointer (some ⟨b, 0, none⟩)] w fun x w' => x = .returned vp ∧ ∃ m, w' = w.drewN m) := hc 0
  have ht : ∀ n, (convert 55 9 vp).run Try.prog (w.drewN n) = .ok (.string (str l)) (w.drewN n) := fun n => Bytes.text (hb.drewN n) _ _ 5 (by kernel_rfl) (by kernel_rfl) (by kernel_rfl)
  clear hc h hs hb
  go_enter Try.func10, Try.ntmps10
  go_wp2_with (go_at_call 23; refine H0.out.mono ?_; rintro x w1 ⟨rfl, m, rfl⟩)
  go_ret
  exact ⟨rfl, _, rfl⟩

end Go.Proofs.Yteeakldeimhjjab
