/-
  Messages: both sides, and the statement, walked.
-/
import Derived.Test.YtmgljpiacpimcaaDoorEMsg
import Derived.ProofKit
namespace Go.Proofs.YtmgljpiacpimcaaDoor
open Go.RowKit
set_option linter.unusedVariables false
set_option maxRecDepth 20000

def sayIs : Array Value := #[.int .i64 1, .int .i64 2, .int .i64 3, .int .i64 40, .int .i64 41, .int .i64 42, .int .i64 44, .int .i64 45, .int .i64 46, .int .i64 47, .int .i64 50, .int .i64 51, .int .i64 70, .int .i64 71, .int .i64 72, .int .i64 73, .int .i64 74, .int .i64 75, .int .i64 90, .int .i64 91, .int .i64 100, .int .i64 101, .int .i64 110, .int .i64 111, .int .i64 112, .int .i64 120, .int .i64 121, .int .i64 122, .int .i64 123, .int .i64 124, .int .i64 125]
def saySs : Array Value := #[.string ⟨#[98, 97, 100, 32, 97, 114, 103, 117, 109, 101, 110, 116]⟩, .string ⟨#[116, 111, 111, 32, 108, 111, 110, 103]⟩, .string ⟨#[110, 111, 32, 114, 111, 111, 109]⟩, .string ⟨#[110, 111, 116, 32, 97, 32, 108, 97, 121, 111, 117, 116]⟩, .string ⟨#[98, 97, 100, 32, 115, 105, 122, 101]⟩, .string ⟨#[110, 111, 32, 115, 117, 99, 104, 32, 112, 97, 110, 101]⟩, .string ⟨#[110, 111, 32, 115, 112, 97, 99, 101]⟩, .string ⟨#[116, 111, 111, 32, 109, 97, 110, 121, 32, 112, 97, 110, 101, 115]⟩, .string ⟨#[111, 110, 108, 121, 32, 112, 97, 110, 101]⟩, .string ⟨#[110, 111, 32, 98, 111, 114, 100, 101, 114]⟩, .string ⟨#[98, 97, 100, 32, 108, 97, 121, 111, 117, 116]⟩, .string ⟨#[98, 97, 100, 32, 115, 117, 109]⟩, .string ⟨#[110, 111, 32, 115, 117, 99, 104, 32, 115, 101, 115, 115, 105, 111, 110]⟩, .string ⟨#[110, 111, 32, 115, 117, 99, 104, 32, 119, 105, 110, 100, 111, 119]⟩, .string ⟨#[110, 111, 32, 115, 117, 99, 104, 32, 105, 110, 100, 101, 120]⟩, .string ⟨#[98, 97, 100, 32, 110, 97, 109, 101]⟩, .string ⟨#[105, 110, 32, 117, 115, 101]⟩, .string ⟨#[111, 110, 108, 121, 32, 111, 110, 101]⟩, .string ⟨#[111, 112, 101, 110, 32, 113, 117, 111, 116, 101]⟩, .string ⟨#[116, 111, 111, 32, 109, 97, 110, 121, 32, 119, 111, 114, 100, 115]⟩, .string ⟨#[98, 97, 100, 32, 102, 111, 114, 109, 97, 116]⟩, .string ⟨#[116, 111, 111, 32, 100, 101, 101, 112]⟩, .string ⟨#[110, 111, 116, 32, 102, 111, 117, 110, 100]⟩, .string ⟨#[97, 109, 98, 105, 103, 117, 111, 117, 115]⟩, .string ⟨#[110, 111, 32, 99, 117, 114, 114, 101, 110, 116, 32, 115, 101, 115, 115, 105, 111, 110]⟩, .string ⟨#[117, 110, 107, 110, 111, 119, 110, 32, 99, 111, 109, 109, 97, 110, 100]⟩, .string ⟨#[97, 109, 98, 105, 103, 117, 111, 117, 115, 32, 99, 111, 109, 109, 97, 110, 100]⟩, .string ⟨#[117, 110, 107, 110, 111, 119, 110, 32, 102, 108, 97, 103]⟩, .string ⟨#[118, 97, 108, 117, 101, 32, 110, 101, 101, 100, 101, 100]⟩, .string ⟨#[119, 114, 111, 110, 103, 32, 110, 117, 109, 98, 101, 114, 32, 111, 102, 32, 119, 111, 114, 100, 115]⟩, .string ⟨#[98, 97, 100, 32, 118, 97, 108, 117, 101]⟩]
theorem say_two : ∀ k : Fin 31, ∃ a b, sayT[k.val]? = some (a, b) ∧ sayIs[k.val]? = some (.int .i64 a) ∧ saySs[k.val]? = some (.string (str b)) ∧ b ≠ [] := by
  intro k
  match k with
  | ⟨0, _⟩ => exact ⟨_, _, rfl, rfl, rfl, by decide⟩
  | ⟨1, _⟩ => exact ⟨_, _, rfl, rfl, rfl, by decide⟩
  | ⟨2, _⟩ => exact ⟨_, _, rfl, rfl, rfl, by decide⟩
  | ⟨3, _⟩ => exact ⟨_, _, rfl, rfl, rfl, by decide⟩
  | ⟨4, _⟩ => exact ⟨_, _, rfl, rfl, rfl, by decide⟩
  | ⟨5, _⟩ => exact ⟨_, _, rfl, rfl, rfl, by decide⟩
  | ⟨6, _⟩ => exact ⟨_, _, rfl, rfl, rfl, by decide⟩
  | ⟨7, _⟩ => exact ⟨_, _, rfl, rfl, rfl, by decide⟩
  | ⟨8, _⟩ => exact ⟨_, _, rfl, rfl, rfl, by decide⟩
  | ⟨9, _⟩ => exact ⟨_, _, rfl, rfl, rfl, by decide⟩
  | ⟨10, _⟩ => exact ⟨_, _, rfl, rfl, rfl, by decide⟩
  | ⟨11, _⟩ => exact ⟨_, _, rfl, rfl, rfl, by decide⟩
  | ⟨12, _⟩ => exact ⟨_, _, rfl, rfl, rfl, by decide⟩
  | ⟨13, _⟩ => exact ⟨_, _, rfl, rfl, rfl, by decide⟩
  | ⟨14, _⟩ => exact ⟨_, _, rfl, rfl, rfl, by decide⟩
  | ⟨15, _⟩ => exact ⟨_, _, rfl, rfl, rfl, by decide⟩
  | ⟨16, _⟩ => exact ⟨_, _, rfl, rfl, rfl, by decide⟩
  | ⟨17, _⟩ => exact ⟨_, _, rfl, rfl, rfl, by decide⟩
  | ⟨18, _⟩ => exact ⟨_, _, rfl, rfl, rfl, by decide⟩
  | ⟨19, _⟩ => exact ⟨_, _, rfl, rfl, rfl, by decide⟩
  | ⟨20, _⟩ => exact ⟨_, _, rfl, rfl, rfl, by decide⟩
  | ⟨21, _⟩ => exact ⟨_, _, rfl, rfl, rfl, by decide⟩
  | ⟨22, _⟩ => exact ⟨_, _, rfl, rfl, rfl, by decide⟩
  | ⟨23, _⟩ => exact ⟨_, _, rfl, rfl, rfl, by decide⟩
  | ⟨24, _⟩ => exact ⟨_, _, rfl, rfl, rfl, by decide⟩
  | ⟨25, _⟩ => exact ⟨_, _, rfl, rfl, rfl, by decide⟩
  | ⟨26, _⟩ => exact ⟨_, _, rfl, rfl, rfl, by decide⟩
  | ⟨27, _⟩ => exact ⟨_, _, rfl, rfl, rfl, by decide⟩
  | ⟨28, _⟩ => exact ⟨_, _, rfl, rfl, rfl, by decide⟩
  | ⟨29, _⟩ => exact ⟨_, _, rfl, rfl, rfl, by decide⟩
  | ⟨30, _⟩ => exact ⟨_, _, rfl, rfl, rfl, by decide⟩
  | ⟨k + 31, h⟩ => exact absurd h (by omega)
theorem say_len2 : ∀ (j : Nat) p, sayT[j]? = some p → j < 31 := fun j p h => by have := (List.getElem?_eq_some_iff.1 h).1; rw [say_len] at this; exact this

set_option maxHeartbeats 4000000 in
theorem phrase_any (e : Int) (w : World) : Calls Tryd.prog 7 #[.int .i64 e] w fun x w' => x = .returned (.string (str ((sayF e).getD []))) ∧ Below w.heap.size w w' := by
  obtain ⟨R, hR⟩ : ∃ R, str ((sayF e).getD []) = R := ⟨_, rfl⟩
  have HR := hidden hR
  rw [hR]
  obtain ⟨W1, hW1⟩ : ∃ W, w.alloc (.cells sayIs 3) = W := ⟨_, rfl⟩
  obtain ⟨W2, hW2⟩ : ∃ W, W1.alloc (.cells saySs 9) = W := ⟨_, rfl⟩
  have hs1 : W1.heap.size = w.heap.size + 1 := by rw [← hW1]; simp
  have HB2 : Hid (Below w.heap.size w W2) := by rw [← hW2, ← hW1]; exact ((Below.refl _ _).alloc (Nat.le_refl _) _).alloc (by simp) _
  have hI : W2.heap[w.heap.size]? = some (.cells sayIs 3 (0, 0)) := by
    rw [← hW2]
    have h1 : W1.heap[w.heap.size]? = some (.cells sayIs 3 (0, 0)) := by rw [← hW1]; exact (MapKept.heap_alloc w _).1
    have h2 : Below W1.heap.size W1 (W1.alloc (.cells saySs 9)) := (Below.refl _ _).alloc (Nat.le_refl _) _
    exact (h2.block w.heap.size (by omega)).trans h1
  have hS : W2.heap[w.heap.size + 1]? = some (.cells saySs 9 (0, 0)) := by
    rw [← hW2, ← hs1]
    exact (MapKept.heap_alloc W1 _).1
  have HAt : Hid (∀ k : Nat, k < 31 → ∃ a b, sayT[k]? = some (a, b) ∧ W2.cell? ⟨w.heap.size, k, none⟩ = some (.int .i64 a) ∧ W2.cell? ⟨w.heap.size + 1, k, none⟩ = some (.string (str b))) := fun k hk => by
    obtain ⟨a, b, h1, h2, h3, _⟩ := say_two ⟨k, hk⟩
    exact ⟨a, b, h1, by simp only [World.cell?, hI]; simpa using h2, by simp only [World.cell?, hS]; simpa using h3⟩
  unfold sayIs at hW1
  unfold saySs at hW2
  clear hR hI hS
  go_enter Tryd.func7, Tryd.ntmps7
  go_wp2_with fail
  go_loopw [5] (fun v wr => ∃ i : Nat, i ≤ 31 ∧ v = .int .i64 i ∧ Hid (∀ (j : Nat) p, j < i → sayT[j]? = some p → p.1 ≠ e) ∧ W2 = wr) (fun v _ => 31 - (intOf v).toNat)
  case atStart => exact ⟨0, Nat.zero_le _, rfl, fun j p hj => by omega, rfl⟩
  case round =>
    obtain ⟨i, hi, rfl, HNo, rfl⟩ := hrel
    clear hW1 hW2 hs1
    by_cases hlt : i < 31
    · obtain ⟨a, b, t1, t2, t3⟩ := HAt.out i hlt
      have HT1 := hidden t1
      have hz : (i : Int) < 31 := by omega
      clear t1
      by_cases hae : a = e
      · subst hae
        have HF : Hid (str b = R) := by
          show _ = _
          rw [← HR.out, find_yes HT1.out HNo.out]
          rfl
        go_wp2
        go_ret
        exact ⟨by rw [← HF.out]; rfl, HB2.out⟩
      · have hab : (a == e) = false := by simpa using hae
        have HN2 : Hid (∀ (j : Nat) p, j < i + 1 → sayT[j]? = some p → p.1 ≠ e) := fun j p hj hp => by
          by_cases hji : j < i
          · exact HNo.out j p hji hp
          · have : j = i := by omega
            subst this
            rw [HT1.out] at hp
            rw [← Option.some.inj hp]
            exact hae
        go_wp2
        first
          | (go_roundw
             case rel => exact ⟨i + 1, by omega, by first | rfl | go_num, HN2, rfl⟩
             case measure => simp [intOf]; omega)
          | exact ⟨⟨i + 1, by omega, by first | rfl | go_num, HN2, rfl⟩, by simp [intOf]; omega⟩
          | exact ⟨⟨i + 1, by omega, by first | rfl | go_num, HN2, trivial⟩, by simp [intOf]; omega⟩
    · have hi31 : i = 31 := by omega
      subst hi31
      have HF : Hid ((⟨#[]⟩ : ByteArray) = R) := by
        show _ = _
        rw [← HR.out, find_no fun j p hp => HNo.out j p (say_len2 j p hp) hp]
        rfl
      go_wp2
      go_ret
      exact ⟨by rw [← HF.out]; rfl, HB2.out⟩
theorem phrase_split (e : Int) : (∃ t, sayF e = some t ∧ t ≠ [] ∧ phraseF e = t) ∨ (sayF e = none ∧ putL e = [] ∧ phraseF e = [101, 114, 114, 111, 114]) ∨ (sayF e = none ∧ putL e ≠ [] ∧ phraseF e = [101, 114, 114, 111, 114, 32] ++ putL e) := by
  unfold phraseF
  cases h : sayF e with
  | some t =>
    refine .inl ⟨t, rfl, ?_, rfl⟩
    unfold sayF at h
    obtain ⟨p, hp, rfl⟩ := Option.map_eq_some_iff.1 h
    have hm := List.mem_of_find?_eq_some hp
    obtain ⟨j, hj, e2⟩ := List.getElem_of_mem hm
    obtain ⟨a, b, h1, _, _, h4⟩ := say_two ⟨j, by rw [say_len] at hj; exact hj⟩
    have h5 : sayT[j]? = some p := by rw [List.getElem?_eq_getElem hj, e2]
    simp only [] at h1
    rw [h5] at h1
    cases h1
    exact h4
  | none =>
    by_cases hp : putL e = []
    · exact .inr (.inl ⟨rfl, hp, by simp only [if_pos hp]⟩)
    · exact .inr (.inr ⟨rfl, hp, by simp only [if_neg hp]⟩)
theorem phrase_len (e : Int) : (phraseF e).length ≤ 1000 := by
  rcases phrase_split e with ⟨t, h1, h2, h3⟩ | ⟨h1, h2, h3⟩ | ⟨h1, h2, h3⟩
  · rw [h3]
    unfold sayF at h1
    obtain ⟨p, hp, rfl⟩ := Option.map_eq_some_iff.1 h1
    have hm := List.mem_of_find?_eq_some hp
    have key : ∀ q ∈ sayT, q.2.length ≤ 1000 := by decide
    exact key p hm
  · rw [h3]; decide
  · rw [h3]
    have := putL_length e
    simp
    omega

set_option maxHeartbeats 2000000 in
theorem message_any (e : Int) (s : ByteArray) (w : World) (hN : NumV w) (hS : SayV w) (h0 : -9223372036854775808 ≤ e) (h1 : e ≤ 9223372036854775807) (hs : s.size ≤ 140737488351232) : Calls Tryd.prog 4 #[.int .i64 e, .string s] w fun x w' => x = .returned (.string (str (msgF e s.data.toList))) ∧ Below w.heap.size w w' := by
  have HT : Hid (Calls Tryd.prog 6 #[.int .i64 e] w fun x w' => x = .returned (.string (str (phraseF e))) ∧ Below w.heap.size w w') := textOf_any e w hN hS h0 h1
  obtain ⟨P, hP⟩ : ∃ P, str (phraseF e) = P := ⟨_, rfl⟩
  have hPs : P.size ≤ 1000 := by rw [← hP, str_size]; exact phrase_len e
  rw [hP] at HT
  by_cases hz : s.data.toList = []
  · have he : s.toList = [] := by rw [Lib.toList_data]; exact hz
    have hi : s.toList.isEmpty = true := by rw [he]; rfl
    have HF : Hid (str (msgF e s.data.toList) = P) := by show _ = _; unfold msgF; rw [if_pos hz, hP]
    clear hz hN hS hP
    go_enter Tryd.func4, Tryd.ntmps4
    go_wp2_with (go_at_call 6; refine HT.out.mono ?_; rintro x w1 ⟨rfl, hb1⟩)
    all_goals go_ret
    all_goals exact ⟨by rw [HF.out]; rfl, hb1⟩
  · have he : ¬ s.toList = [] := by rw [Lib.toList_data]; exact hz
    have hi : s.toList.isEmpty = false := by cases hq : s.toList with | nil => exact absurd hq he | cons a b => rfl
    have HF : Hid (P ++ ((⟨#[58, 32]⟩ : ByteArray) ++ s) = str (msgF e s.data.toList)) := by
      show _ = _
      unfold msgF
      rw [if_neg hz, ← hP, ← str_cat, ← str_cat, data_str]
      rfl
    clear hz hN hS hP
    go_enter Tryd.func4, Tryd.ntmps4
    go_wp2_with (go_at_call 6; refine HT.out.mono ?_; rintro x w1 ⟨rfl, hb1⟩)
    all_goals go_ret
    all_goals exact ⟨by first | (rw [← HF.out]; done) | (rw [← HF.out]; rfl), hb1⟩

set_option maxHeartbeats 2000000 in
theorem refMessage_any (e : Int) (s : ByteArray) (w : World) (h0 : -9223372036854775808 ≤ e) (h1 : e ≤ 9223372036854775807) (hs : s.size ≤ 140737488351232) : Calls Tryd.prog 5 #[.int .i64 e, .string s] w fun x w' => x = .returned (.string (str (msgF e s.data.toList))) ∧ Below w.heap.size w w' := by
  have HT := hidden (phrase_any e w)
  have HPn : Hid (∀ X, Calls Tryd.prog 8 #[.int .i64 e] X fun x w' => x = .returned (.string (str (putL e))) ∧ Below X.heap.size X w') := fun X => refPutNumber_any e X h0 h1
  obtain ⟨R, hR⟩ : ∃ R, str (msgF e s.data.toList) = R := ⟨_, rfl⟩
  rw [hR]
  have hab : (s.toList = [] ∧ s.toList.isEmpty = true ∧ str (phraseF e) = R) ∨ (¬ s.toList = [] ∧ s.toList.isEmpty = false ∧ str (phraseF e) ++ (⟨#[58, 32]⟩ : ByteArray) ++ s = R) := by
    by_cases hz : s.data.toList = []
    · have he : s.toList = [] := by rw [Lib.toList_data]; exact hz
      exact .inl ⟨he, by rw [he]; rfl, by rw [← hR]; unfold msgF; rw [if_pos hz]⟩
    · have he : ¬ s.toList = [] := by rw [Lib.toList_data]; exact hz
      refine .inr ⟨he, by cases hq : s.toList with | nil => exact absurd hq he | cons a b => rfl, ?_⟩
      rw [← hR]
      unfold msgF
      rw [if_neg hz, ← str_cat, ← str_cat, data_str, ByteArray.append_assoc]
      rfl
  have HAb := hidden hab
  clear hab hR
  rcases phrase_split e with ⟨t, g1, g2, g3⟩ | ⟨g1, g2, g3⟩ | ⟨g1, g2, g3⟩
  · rw [g1] at HT
    rw [g3] at HAb
    obtain ⟨P, hP⟩ : ∃ P, str t = P := ⟨_, rfl⟩
    have hPs : P.size ≤ 1000 := by rw [← hP, str_size, ← g3]; exact phrase_len e
    obtain ⟨n1, n2⟩ := ne_str g2
    rw [hP] at n1 n2 HAb
    have HTx : Hid (Calls Tryd.prog 7 #[.int .i64 e] w fun x w' => x = .returned (.string P) ∧ Below w.heap.size w w') := by rw [← hP]; exact HT.out
    clear HT g1 g2 g3 hP
    rcases HAb.out with ⟨a1, a2, a3⟩ | ⟨a1, a2, a3⟩
    · have HF := hidden a3
      clear a3 HAb
      go_enter Tryd.func5, Tryd.ntmps5
      go_wp2_with (go_at_call 7; refine HTx.out.mono ?_; rintro x w1 ⟨rfl, hb1⟩)
      all_goals go_ret
      all_goals exact ⟨by rw [← HF.out]; rfl, hb1⟩
    · have HF := hidden a3
      clear a3 HAb
      go_enter Tryd.func5, Tryd.ntmps5
      go_wp2_with (go_at_call 7; refine HTx.out.mono ?_; rintro x w1 ⟨rfl, hb1⟩)
      all_goals go_ret
      all_goals exact ⟨by first | (rw [← HF.out]; done) | (rw [← HF.out]; rfl), hb1⟩
  · rw [g1] at HT
    rw [g3] at HAb
    rw [g2] at HPn
    have HTx : Hid (Calls Tryd.prog 7 #[.int .i64 e] w fun x w' => x = .returned (.string ⟨#[]⟩) ∧ Below w.heap.size w w') := HT.out
    have HPx : Hid (∀ X, Calls Tryd.prog 8 #[.int .i64 e] X fun x w' => x = .returned (.string ⟨#[]⟩) ∧ Below X.heap.size X w') := HPn.out
    clear HT g1 g2 g3 HPn
    rcases HAb.out with ⟨a1, a2, a3⟩ | ⟨a1, a2, a3⟩
    · have HF := hidden a3
      clear a3 HAb
      go_enter Tryd.func5, Tryd.ntmps5
      go_wp2_with (first | (go_at_call 7; refine HTx.out.mono ?_; rintro x w1 ⟨rfl, hb1⟩) | (go_at_call 8; refine (HPx.out _).mono ?_; rintro x w2 ⟨rfl, hb2⟩))
      all_goals go_ret
      all_goals exact ⟨by rw [← HF.out]; rfl, below_step hb1 hb2⟩
    · have HF := hidden a3
      clear a3 HAb
      go_enter Tryd.func5, Tryd.ntmps5
      go_wp2_with (first | (go_at_call 7; refine HTx.out.mono ?_; rintro x w1 ⟨rfl, hb1⟩) | (go_at_call 8; refine (HPx.out _).mono ?_; rintro x w2 ⟨rfl, hb2⟩))
      all_goals go_ret
      all_goals exact ⟨by first | (rw [← HF.out]; done) | (rw [← HF.out]; rfl), below_step hb1 hb2⟩
  · rw [g1] at HT
    rw [g3] at HAb
    have HTx : Hid (Calls Tryd.prog 7 #[.int .i64 e] w fun x w' => x = .returned (.string ⟨#[]⟩) ∧ Below w.heap.size w w') := HT.out
    obtain ⟨P, hP⟩ : ∃ P, str (putL e) = P := ⟨_, rfl⟩
    have hPs : P.size ≤ 19 := by rw [← hP, str_size]; exact putL_length e
    obtain ⟨n1, n2⟩ := ne_str g2
    rw [hP] at HPn n1 n2
    have hcat : str ([101, 114, 114, 111, 114, 32] ++ putL e) = (⟨#[101, 114, 114, 111, 114]⟩ : ByteArray) ++ ⟨#[32]⟩ ++ P := by
      rw [← hP]
      show _ = str [101, 114, 114, 111, 114] ++ str [32] ++ str (putL e)
      rw [str_cat, str_cat]
      rfl
    rw [hcat] at HAb
    clear HT g1 g2 g3 hP hcat
    rcases HAb.out with ⟨a1, a2, a3⟩ | ⟨a1, a2, a3⟩
    · have HF := hidden a3
      clear a3 HAb
      go_enter Tryd.func5, Tryd.ntmps5
      go_wp2_with (first | (go_at_call 7; refine HTx.out.mono ?_; rintro x w1 ⟨rfl, hb1⟩) | (go_at_call 8; refine (HPn.out _).mono ?_; rintro x w2 ⟨rfl, hb2⟩))
      all_goals go_ret
      all_goals exact ⟨by first | (rw [← HF.out]; done) | (rw [← HF.out]; rfl), below_step hb1 hb2⟩
    · have HF := hidden a3
      clear a3 HAb
      go_enter Tryd.func5, Tryd.ntmps5
      go_wp2_with (first | (go_at_call 7; refine HTx.out.mono ?_; rintro x w1 ⟨rfl, hb1⟩) | (go_at_call 8; refine (HPn.out _).mono ?_; rintro x w2 ⟨rfl, hb2⟩))
      all_goals go_ret
      all_goals exact ⟨by first | (rw [← HF.out]; done) | (rw [← HF.out]; rfl), below_step hb1 hb2⟩

theorem one_msg : msgF 110 (⟨#[120]⟩ : ByteArray).data.toList = [110, 111, 116, 32, 102, 111, 117, 110, 100, 58, 32, 120] := by decide
set_option maxHeartbeats 2000000 in
theorem execMessages_walk (e : Int) (s : ByteArray) (w : World) (hN : NumV w) (hS : SayV w) (h0 : -9223372036854775808 ≤ e) (h1 : e ≤ 9223372036854775807) (hs : s.size ≤ 140737488351232) : Calls Tryd.prog 3 #[.int .i64 e, .string s] w fun x w' => x = .returned (.bool true) ∧ Below w.heap.size w w' := by

  obtain ⟨R, hR⟩ : ∃ R, str (msgF e s.data.toList) = R := ⟨_, rfl⟩
  have HM : Hid (Calls Tryd.prog 4 #[.int .i64 e, .string s] w fun x w' => x = .returned (.string R) ∧ Below w.heap.size w w') := by rw [← hR]; exact message_any e s w hN hS h0 h1 hs
  have HM2 : Hid (∀ X, Below w.heap.size w X → Calls Tryd.prog 4 #[.int .i64 110, .string ⟨#[120]⟩] X fun x w' => x = .returned (.string ⟨#[110, 111, 116, 32, 102, 111, 117, 110, 100, 58, 32, 120]⟩) ∧ Below X.heap.size X w') := fun X hX => by
    have h := message_any 110 ⟨#[120]⟩ X (hN.below hX) (hS.below hX) (by decide) (by decide) (by decide)
    rw [one_msg] at h
    exact h
  have HRf : Hid (∀ X, Calls Tryd.prog 5 #[.int .i64 e, .string s] X fun x w' => x = .returned (.string R) ∧ Below X.heap.size X w') := fun X => by rw [← hR]; exact refMessage_any e s X h0 h1 hs
  clear hN hS hR
  go_enter Tryd.func3, Tryd.ntmps3
  go_wp2_with fail
  refine HM.out.mono ?_
  rintro x w1 ⟨rfl, hb1⟩
  go_wp2_with fail
  refine (HRf.out _).mono ?_
  rintro x w2 ⟨rfl, hb2⟩
  have H2 := hidden (below_step hb1 hb2)
  clear hb1 hb2
  go_wp2_with fail
  refine (HM2.out _ H2.out).mono ?_
  rintro x w3 ⟨rfl, hb3⟩
  go_wp2
  all_goals go_ret
  all_goals exact ⟨rfl, below_step H2.out hb3⟩
end Go.Proofs.YtmgljpiacpimcaaDoor
