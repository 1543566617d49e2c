/-
  The tail: Read.
-/
import Derived.Test.YteeakldeimhjjabTLineW
import Derived.WalkKit
namespace Go.Proofs.Yteeakldeimhjjab
open Go.RowKit
set_option linter.unusedVariables false
set_option maxRecDepth 20000

/-- What Read answers. -/
def readV (s : Nat) (l : List UInt8) (f m : Int) : Value :=
  if f < 0 ∨ m < 0 then .tuple #[.string ⟨#[]⟩, .int .i64 0, .int .i64 1]
  else if f < s then .tuple #[.string ⟨#[]⟩, .int .i64 0, .int .i64 60]
  else if f > (s : Int) + l.length then .tuple #[.string ⟨#[]⟩, .int .i64 0, .int .i64 61]
  else .tuple #[.string (str ((l.drop (f.toNat - s)).take (min m.toNat (l.length - (f.toNat - s))))), .int .i64 (f + (min m.toNat (l.length - (f.toNat - s)) : Nat)), .int .i64 0]
theorem readV_arg {s : Nat} {l : List UInt8} {f m : Int} (h : f < 0 ∨ m < 0) : readV s l f m = .tuple #[.string ⟨#[]⟩, .int .i64 0, .int .i64 1] := by unfold readV; rw [if_pos h]
theorem readV_gone {s : Nat} {l : List UInt8} {f m : Int} (h : ¬ (f < 0 ∨ m < 0)) (h2 : f < s) : readV s l f m = .tuple #[.string ⟨#[]⟩, .int .i64 0, .int .i64 60] := by unfold readV; rw [if_neg h, if_pos h2]
theorem readV_ahead {s : Nat} {l : List UInt8} {f m : Int} (h : ¬ (f < 0 ∨ m < 0)) (h2 : ¬ f < s) (h3 : f > (s : Int) + l.length) : readV s l f m = .tuple #[.string ⟨#[]⟩, .int .i64 0, .int .i64 61] := by unfold readV; rw [if_neg h, if_neg h2, if_pos h3]
theorem readV_ok {s : Nat} {l : List UInt8} {a m : Nat} (h3 : a ≤ l.length) {k : Nat} (hk : k = min m (l.length - a)) :
    readV s l ((s + a : Nat) : Int) (m : Int) = .tuple #[.string (str ((l.drop a).take k)), .int .i64 ((s + a + k : Nat) : Int), .int .i64 0] := by
  unfold readV
  rw [if_neg (by omega), if_neg (by omega), if_neg (by omega)]
  rw [show ((s + a : Nat) : Int).toNat - s = a by omega, show (m : Int).toNat = m by omega, ← hk]
  rw [show ((s + a : Nat) : Int) + (k : Int) = ((s + a + k : Nat) : Int) by omega]

set_option maxHeartbeats 2000000 in
theorem read_any {b : Nat} {v : Value} {lim e s : Nat} {l : List UInt8} {w : World} (h : LogAt w b v lim e l) (hs : s + l.length = e) (f m : Int) (hf1 : -9223372036854775808 ≤ f) (hf2 : f ≤ 9223372036854775807) (hm1 : -9223372036854775808 ≤ m) (hm2 : m ≤ 9223372036854775807) :
    Calls Try.prog 19 #[.pointer (some ⟨b, 0, none⟩), .int .i64 f, .int .i64 m] w fun x w' => x = .returned (readV s l f m) ∧ ∃ n, w' = w.drewN n := by
  have h1 := h.ende
  have h3 := h.most
  have HS : Hid (∀ W, LogAt W b v lim e l → Calls Try.prog 9 #[.pointer (some ⟨b, 0, none⟩)] W fun x w' => x = .returned (.int .i64 s) ∧ ∃ m, w' = W.drewN m) := fun W hW => start_any hW hs
  have HL : Hid (LogAt w b v lim e l) := h
  have HE : Hid (s + l.length = e) := hs
  by_cases c1 : f < 0 ∨ m < 0
  · rw [readV_arg c1]
    clear h hs
    by_cases c0 : f < 0
    · go_enter Try.func19, Try.ntmps19
      go_wp2
      all_goals go_ret3
      all_goals exact ⟨rfl, 0, rfl⟩
    · have c2 : m < 0 := by omega
      clear c1
      go_enter Try.func19, Try.ntmps19
      go_wp2
      all_goals go_ret3
      all_goals exact ⟨rfl, 0, rfl⟩
  by_cases c2 : f < s
  · rw [readV_gone c1 c2]
    have c3 : ¬ f < 0 := by omega
    have c4 : ¬ m < 0 := by omega
    clear c1 h hs
    go_enter Try.func19, Try.ntmps19
    go_wp2_with (go_at_call 9; refine (HS.out _ HL.out).mono ?_; rintro x w1 ⟨rfl, m, rfl⟩)
    all_goals go_ret3
    all_goals exact ⟨rfl, _, rfl⟩
  by_cases c5 : f > (s : Int) + l.length
  · rw [readV_ahead c1 c2 c5]
    have c3 : ¬ f < 0 := by omega
    have c4 : ¬ m < 0 := by omega
    have c6 : (e : Int) < f := by omega
    clear c1 c5 h hs
    go_enter Try.func19, Try.ntmps19
    go_wp2_with (go_at_call 9; refine (HS.out _ HL.out).mono ?_; rintro x w1 ⟨rfl, m, rfl⟩)
    all_goals go_ret3
    all_goals exact ⟨rfl, _, rfl⟩
  obtain ⟨a, rfl⟩ : ∃ a : Nat, f = ((s + a : Nat) : Int) := ⟨f.toNat - s, by omega⟩
  obtain ⟨m, rfl⟩ : ∃ k : Nat, m = (k : Int) := ⟨m.toNat, by omega⟩
  have ha : a ≤ l.length := by omega
  obtain ⟨k, hk⟩ : ∃ k, k = min m (l.length - a) := ⟨_, rfl⟩
  rw [readV_ok ha hk]
  obtain ⟨vp, hb, hp⟩ := piece_any h hs a k (by omega)
  have HP : Hid (∀ n : Nat, Calls Try.prog 26 #[.pointer (some ⟨b, 0, none⟩), .int .i64 ((s + a : Nat) : Int), .int .i64 ((s + a + k : Nat) : Int)] (w.drewN n) fun x w' => x = .returned vp ∧ ∃ m, w' = (w.drewN n).drewN m) := fun n => hp n _ _ rfl rfl
  have ht : ∀ n, (convert 55 9 vp).run Try.prog (w.drewN n) = .ok (.string (str ((l.drop a).take k))) (w.drewN n) := fun n => Bytes.text (hb.drewN n) _ _ 5 (by kernel_rfl) (by kernel_rfl) (by kernel_rfl)
  obtain ⟨r, hr⟩ : ∃ r, (l.drop a).take k = r := ⟨_, rfl⟩
  rw [hr] at ht ⊢
  obtain ⟨F, hF⟩ : ∃ F : Int, ((s + a : Nat) : Int) = F := ⟨_, rfl⟩
  obtain ⟨T, hT⟩ : ∃ T : Int, ((s + a + k : Nat) : Int) = T := ⟨_, rfl⟩
  rw [hF] at HP hf1 hf2 c1 c2 c5 ⊢
  rw [hT] at HP ⊢
  have c3 : ¬ F < 0 := by omega
  have c4 : ¬ (m : Int) < 0 := by omega
  have c6 : ¬ ((e : Int) < F) := by omega
  have d1 : F + (if (e : Int) - F ≤ (m : Int) then (e : Int) - F else m) = T := by split <;> omega
  have b1 : (0 : Int) ≤ e - F := by omega
  have H1 : Hid ((e : Int) - F < (m : Int) → F + ((e : Int) - F) = T) := fun h => by omega
  have H2 : Hid (¬ ((e : Int) - F < (m : Int)) → F + (m : Int) = T) := fun h => by omega
  have b2 : T ≤ 9223372036854775807 := by omega
  clear hr hF hT c1 c5 h hs hb hp hk d1
  by_cases hm : (e : Int) - F < (m : Int)
  · have hd := H1.out hm
    obtain rfl : T = F + ((e : Int) - F) := by omega
    clear H1 H2 hd
    go_enter Try.func19, Try.ntmps19
    go_wp2_with (first | (go_at_call 9; refine (HS.out _ HL.out).mono ?_; rintro x w1 ⟨rfl, m, rfl⟩) | (go_at_call 26; refine (HP.out _).mono ?_; rintro x w1 ⟨rfl, m, rfl⟩))
    all_goals go_ret3
    all_goals exact ⟨rfl, _, rfl⟩
  · have hd := H2.out hm
    obtain rfl : T = F + (m : Int) := by omega
    clear H1 H2 hd
    go_enter Try.func19, Try.ntmps19
    go_wp2_with (first | (go_at_call 9; refine (HS.out _ HL.out).mono ?_; rintro x w1 ⟨rfl, m, rfl⟩) | (go_at_call 26; refine (HP.out _).mono ?_; rintro x w1 ⟨rfl, m, rfl⟩))
    all_goals go_ret3
    all_goals exact ⟨rfl, _, rfl⟩

end Go.Proofs.Yteeakldeimhjjab
