/-
  The walk of WireForged.
-/
import Derived.Test.YtcgpgnifaeikeaaGreatDoorWForgeP
import Derived.WalkKit
namespace Go.Proofs.YtcgpgnifaeikeaaGreatDoor
open Go.RowKit
set_option linter.unusedVariables false

theorem enc_yes {e : Ev} {l : List UInt8} (hf : e.Fits) (h : encS e = some l) (W : World) (hW : Env W) : Calls Tryz.prog 11 #[.agg e.vals] W fun x w' => x = .returned (.tuple #[.string (str l), .int .i64 0]) ∧ Below W.heap.size W w' := by
  have := encode_any e hf W hW
  rw [h] at this
  exact this
theorem enc_no {e : Ev} (hf : e.Fits) (h : encS e = none) (W : World) (hW : Env W) : Calls Tryz.prog 11 #[.agg e.vals] W fun x w' => x = .returned (.tuple #[.string ⟨#[]⟩, .int .i64 30]) ∧ Below W.heap.size W w' := by
  have := encode_any e hf W hW
  rw [h] at this
  exact this
theorem cls_of {e : Ev} {l : List UInt8} {c : Int} (hl : l.length ≤ lim) (h : encS e = some l) (hc : classK e.kind = c) (W : World) (hW : Env W) : Calls Tryz.prog 14 #[.string (str l)] W fun x w' => x = .returned (.int .i64 c) ∧ Below W.heap.size W w' := by
  have := class_any (str l) (by rw [str_size]; exact hl) W hW
  rw [str_data, dec_enc h, hc] at this
  exact this
theorem enc_length {e : Ev} {l : List UInt8} (hf : e.Fits) (h : encS e = some l) : l.length ≤ lim := by
  rcases encS_cases e with h0 | ⟨k, h1, h2, _, _, h4⟩
  · rw [h0] at h; cases h
  · rw [h4] at h
    cases h
    exact write_length k h1 h2 e hf

set_option maxRecDepth 20000 in
set_option maxHeartbeats 1000000 in
theorem forged_empty (s : ByteArray) (hs : s.size ≤ slim) (hc : s.size = 0) (w : World) (hE : Env w) :
    Calls Tryz.prog 5 #[.string s] w fun e w' => e = .returned (.bool true) ∧ Below w.heap.size w w' := by
  have eb := body_enc s
  have H1 : Hid (∀ W, Env W → Calls Tryz.prog 11 #[.agg #[.int .i64 4, .int .i64 0, .int .i64 0, .int .i64 0, .int .i64 0, .int .i64 0, .int .i64 0, .int .i64 0, .int .i64 0, .string ⟨#[]⟩, .string s, .string ⟨#[]⟩, .string ⟨#[]⟩, .bool false]] W fun e w' => e = .returned (.tuple #[.string (str (escB s.data.toList)), .int .i64 0]) ∧ Below W.heap.size W w') := fun W hW => enc_yes (body_fits s hs) eb W hW
  have C1 : Hid (∀ W, Env W → Calls Tryz.prog 14 #[.string (str (escB s.data.toList))] W fun e w' => e = .returned (.int .i64 3) ∧ Below W.heap.size W w') := fun W hW => cls_of (enc_length (body_fits s hs) eb) eb rfl W hW
  have eo := out_enc_no s (by omega)
  have H2 : Hid (∀ W, Env W → Calls Tryz.prog 11 #[.agg #[.int .i64 5, .int .i64 0, .int .i64 0, .int .i64 1, .int .i64 0, .int .i64 0, .int .i64 0, .int .i64 0, .int .i64 0, .string ⟨#[]⟩, .string s, .string ⟨#[]⟩, .string ⟨#[]⟩, .bool false]] W fun e w' => e = .returned (.tuple #[.string ⟨#[]⟩, .int .i64 30]) ∧ Below W.heap.size W w') := fun W hW => enc_no (out_fits s hs) eo W hW
  have ew := watch_enc_yes s (by omega)
  have H3 : Hid (∀ W, Env W → Calls Tryz.prog 11 #[.agg #[.int .i64 22, .int .i64 1, .int .i64 1, .int .i64 1, .int .i64 0, .int .i64 0, .int .i64 0, .int .i64 0, .int .i64 0, .string ⟨#[119]⟩, .string s, .string ⟨#[]⟩, .string ⟨#[]⟩, .bool false]] W fun e w' => e = .returned (.tuple #[.string (str (watchL s)), .int .i64 0]) ∧ Below W.heap.size W w') := fun W hW => enc_yes (watch_fits s hs) ew W hW
  have C3 : Hid (∀ W, Env W → Calls Tryz.prog 14 #[.string (str (watchL s))] W fun e w' => e = .returned (.int .i64 1) ∧ Below W.heap.size W w') := fun W hW => cls_of (enc_length (watch_fits s hs) ew) ew rfl W hW
  have em := msg_enc_yes s (by omega)
  have H4 : Hid (∀ W, Env W → Calls Tryz.prog 11 #[.agg #[.int .i64 23, .int .i64 0, .int .i64 0, .int .i64 0, .int .i64 0, .int .i64 0, .int .i64 0, .int .i64 0, .int .i64 0, .string ⟨#[]⟩, .string s, .string ⟨#[]⟩, .string ⟨#[]⟩, .bool false]] W fun e w' => e = .returned (.tuple #[.string (str (headOf 23 ++ esc s.data.toList)), .int .i64 0]) ∧ Below W.heap.size W w') := fun W hW => enc_yes (msg_fits s hs) em W hW
  have C4 : Hid (∀ W, Env W → Calls Tryz.prog 14 #[.string (str (headOf 23 ++ esc s.data.toList))] W fun e w' => e = .returned (.int .i64 1) ∧ Below W.heap.size W w') := fun W hW => cls_of (enc_length (msg_fits s hs) em) em rfl W hW
  obtain ⟨l1, hl1⟩ : ∃ l, str (escB s.data.toList) = l := ⟨_, rfl⟩
  rw [hl1] at H1 C1
  obtain ⟨l3, hl3⟩ : ∃ l, str (watchL s) = l := ⟨_, rfl⟩
  rw [hl3] at H3 C3
  obtain ⟨l4, hl4⟩ : ∃ l, str (headOf 23 ++ esc s.data.toList) = l := ⟨_, rfl⟩
  rw [hl4] at H4 C4
  have HE : Hid (∀ W, Below w.heap.size w W → Env W) := fun W h => hE.below h
  have HB0 : Hid (Below w.heap.size w w) := Below.refl _ _
  unfold slim at hs
  clear hE eb eo ew em hl1 hl3 hl4
  go_enter Tryz.func5, Tryz.ntmps5
  go_wp2_with fail
  refine (H1.out _ (HE.out _ HB0.out)).mono ?_
  rintro e w1 ⟨rfl, hb⟩
  have HB1 : Hid (Below w.heap.size w w1) := below_step HB0.out hb
  clear hb H1
  go_wp2_with fail
  refine (C1.out _ (HE.out _ HB1.out)).mono ?_
  rintro e w2 ⟨rfl, hb⟩
  have HB2 : Hid (Below w.heap.size w w2) := below_step HB1.out hb
  clear hb C1
  go_wp2_with fail
  refine (H2.out _ (HE.out _ HB2.out)).mono ?_
  rintro e w3 ⟨rfl, hb⟩
  have HB3 : Hid (Below w.heap.size w w3) := below_step HB2.out hb
  clear hb H2
  go_wp2_with fail
  refine (H3.out _ (HE.out _ HB3.out)).mono ?_
  rintro e w4 ⟨rfl, hb⟩
  have HB4 : Hid (Below w.heap.size w w4) := below_step HB3.out hb
  clear hb H3
  go_wp2_with fail
  refine (H4.out _ (HE.out _ HB4.out)).mono ?_
  rintro e w5 ⟨rfl, hb⟩
  have HB5 : Hid (Below w.heap.size w w5) := below_step HB4.out hb
  clear hb H4
  go_wp2_with fail
  refine (C3.out _ (HE.out _ HB5.out)).mono ?_
  rintro e w6 ⟨rfl, hb⟩
  have HB6 : Hid (Below w.heap.size w w6) := below_step HB5.out hb
  clear hb C3
  go_wp2_with fail
  refine (C4.out _ (HE.out _ HB6.out)).mono ?_
  rintro e w7 ⟨rfl, hb⟩
  have HB7 : Hid (Below w.heap.size w w7) := below_step HB6.out hb
  clear hb C4
  go_wp2
  go_ret
  exact ⟨rfl, HB7.out⟩

set_option maxRecDepth 20000 in
set_option maxHeartbeats 1000000 in
theorem forged_small (s : ByteArray) (hs : s.size ≤ slim) (hc : 1 ≤ s.size ∧ s.size ≤ 256) (w : World) (hE : Env w) :
    Calls Tryz.prog 5 #[.string s] w fun e w' => e = .returned (.bool true) ∧ Below w.heap.size w w' := by
  have eb := body_enc s
  have H1 : Hid (∀ W, Env W → Calls Tryz.prog 11 #[.agg #[.int .i64 4, .int .i64 0, .int .i64 0, .int .i64 0, .int .i64 0, .int .i64 0, .int .i64 0, .int .i64 0, .int .i64 0, .string ⟨#[]⟩, .string s, .string ⟨#[]⟩, .string ⟨#[]⟩, .bool false]] W fun e w' => e = .returned (.tuple #[.string (str (escB s.data.toList)), .int .i64 0]) ∧ Below W.heap.size W w') := fun W hW => enc_yes (body_fits s hs) eb W hW
  have C1 : Hid (∀ W, Env W → Calls Tryz.prog 14 #[.string (str (escB s.data.toList))] W fun e w' => e = .returned (.int .i64 3) ∧ Below W.heap.size W w') := fun W hW => cls_of (enc_length (body_fits s hs) eb) eb rfl W hW
  have eo := out_enc_yes s hc.1 hc.2
  have H2 : Hid (∀ W, Env W → Calls Tryz.prog 11 #[.agg #[.int .i64 5, .int .i64 0, .int .i64 0, .int .i64 1, .int .i64 0, .int .i64 0, .int .i64 0, .int .i64 0, .int .i64 0, .string ⟨#[]⟩, .string s, .string ⟨#[]⟩, .string ⟨#[]⟩, .bool false]] W fun e w' => e = .returned (.tuple #[.string (str (outL s)), .int .i64 0]) ∧ Below W.heap.size W w') := fun W hW => enc_yes (out_fits s hs) eo W hW
  have C2 : Hid (∀ W, Env W → Calls Tryz.prog 14 #[.string (str (outL s))] W fun e w' => e = .returned (.int .i64 1) ∧ Below W.heap.size W w') := fun W hW => cls_of (enc_length (out_fits s hs) eo) eo rfl W hW
  have ew := watch_enc_yes s (by omega)
  have H3 : Hid (∀ W, Env W → Calls Tryz.prog 11 #[.agg #[.int .i64 22, .int .i64 1, .int .i64 1, .int .i64 1, .int .i64 0, .int .i64 0, .int .i64 0, .int .i64 0, .int .i64 0, .string ⟨#[119]⟩, .string s, .string ⟨#[]⟩, .string ⟨#[]⟩, .bool false]] W fun e w' => e = .returned (.tuple #[.string (str (watchL s)), .int .i64 0]) ∧ Below W.heap.size W w') := fun W hW => enc_yes (watch_fits s hs) ew W hW
  have C3 : Hid (∀ W, Env W → Calls Tryz.prog 14 #[.string (str (watchL s))] W fun e w' => e = .returned (.int .i64 1) ∧ Below W.heap.size W w') := fun W hW => cls_of (enc_length (watch_fits s hs) ew) ew rfl W hW
  have em := msg_enc_yes s (by omega)
  have H4 : Hid (∀ W, Env W → Calls Tryz.prog 11 #[.agg #[.int .i64 23, .int .i64 0, .int .i64 0, .int .i64 0, .int .i64 0, .int .i64 0, .int .i64 0, .int .i64 0, .int .i64 0, .string ⟨#[]⟩, .string s, .string ⟨#[]⟩, .string ⟨#[]⟩, .bool false]] W fun e w' => e = .returned (.tuple #[.string (str (headOf 23 ++ esc s.data.toList)), .int .i64 0]) ∧ Below W.heap.size W w') := fun W hW => enc_yes (msg_fits s hs) em W hW
  have C4 : Hid (∀ W, Env W → Calls Tryz.prog 14 #[.string (str (headOf 23 ++ esc s.data.toList))] W fun e w' => e = .returned (.int .i64 1) ∧ Below W.heap.size W w') := fun W hW => cls_of (enc_length (msg_fits s hs) em) em rfl W hW
  obtain ⟨l1, hl1⟩ : ∃ l, str (escB s.data.toList) = l := ⟨_, rfl⟩
  rw [hl1] at H1 C1
  obtain ⟨l2, hl2⟩ : ∃ l, str (outL s) = l := ⟨_, rfl⟩
  rw [hl2] at H2 C2
  obtain ⟨l3, hl3⟩ : ∃ l, str (watchL s) = l := ⟨_, rfl⟩
  rw [hl3] at H3 C3
  obtain ⟨l4, hl4⟩ : ∃ l, str (headOf 23 ++ esc s.data.toList) = l := ⟨_, rfl⟩
  rw [hl4] at H4 C4
  have HE : Hid (∀ W, Below w.heap.size w W → Env W) := fun W h => hE.below h
  have HB0 : Hid (Below w.heap.size w w) := Below.refl _ _
  unfold slim at hs
  clear hE eb eo ew em hl1 hl2 hl3 hl4
  go_enter Tryz.func5, Tryz.ntmps5
  go_wp2_with fail
  refine (H1.out _ (HE.out _ HB0.out)).mono ?_
  rintro e w1 ⟨rfl, hb⟩
  have HB1 : Hid (Below w.heap.size w w1) := below_step HB0.out hb
  clear hb H1
  go_wp2_with fail
  refine (C1.out _ (HE.out _ HB1.out)).mono ?_
  rintro e w2 ⟨rfl, hb⟩
  have HB2 : Hid (Below w.heap.size w w2) := below_step HB1.out hb
  clear hb C1
  go_wp2_with fail
  refine (H2.out _ (HE.out _ HB2.out)).mono ?_
  rintro e w3 ⟨rfl, hb⟩
  have HB3 : Hid (Below w.heap.size w w3) := below_step HB2.out hb
  clear hb H2
  go_wp2_with fail
  refine (C2.out _ (HE.out _ HB3.out)).mono ?_
  rintro e w4 ⟨rfl, hb⟩
  have HB4 : Hid (Below w.heap.size w w4) := below_step HB3.out hb
  clear hb C2
  go_wp2_with fail
  refine (H3.out _ (HE.out _ HB4.out)).mono ?_
  rintro e w5 ⟨rfl, hb⟩
  have HB5 : Hid (Below w.heap.size w w5) := below_step HB4.out hb
  clear hb H3
  go_wp2_with fail
  refine (H4.out _ (HE.out _ HB5.out)).mono ?_
  rintro e w6 ⟨rfl, hb⟩
  have HB6 : Hid (Below w.heap.size w w6) := below_step HB5.out hb
  clear hb H4
  go_wp2_with fail
  refine (C3.out _ (HE.out _ HB6.out)).mono ?_
  rintro e w7 ⟨rfl, hb⟩
  have HB7 : Hid (Below w.heap.size w w7) := below_step HB6.out hb
  clear hb C3
  go_wp2_with fail
  refine (C4.out _ (HE.out _ HB7.out)).mono ?_
  rintro e w8 ⟨rfl, hb⟩
  have HB8 : Hid (Below w.heap.size w w8) := below_step HB7.out hb
  clear hb C4
  go_wp2
  go_ret
  exact ⟨rfl, HB8.out⟩

set_option maxRecDepth 20000 in
set_option maxHeartbeats 1000000 in
theorem forged_mid (s : ByteArray) (hs : s.size ≤ slim) (hc : 256 < s.size ∧ s.size ≤ 1024) (w : World) (hE : Env w) :
    Calls Tryz.prog 5 #[.string s] w fun e w' => e = .returned (.bool true) ∧ Below w.heap.size w w' := by
  have eb := body_enc s
  have H1 : Hid (∀ W, Env W → Calls Tryz.prog 11 #[.agg #[.int .i64 4, .int .i64 0, .int .i64 0, .int .i64 0, .int .i64 0, .int .i64 0, .int .i64 0, .int .i64 0, .int .i64 0, .string ⟨#[]⟩, .string s, .string ⟨#[]⟩, .string ⟨#[]⟩, .bool false]] W fun e w' => e = .returned (.tuple #[.string (str (escB s.data.toList)), .int .i64 0]) ∧ Below W.heap.size W w') := fun W hW => enc_yes (body_fits s hs) eb W hW
  have C1 : Hid (∀ W, Env W → Calls Tryz.prog 14 #[.string (str (escB s.data.toList))] W fun e w' => e = .returned (.int .i64 3) ∧ Below W.heap.size W w') := fun W hW => cls_of (enc_length (body_fits s hs) eb) eb rfl W hW
  have eo := out_enc_no s (by omega)
  have H2 : Hid (∀ W, Env W → Calls Tryz.prog 11 #[.agg #[.int .i64 5, .int .i64 0, .int .i64 0, .int .i64 1, .int .i64 0, .int .i64 0, .int .i64 0, .int .i64 0, .int .i64 0, .string ⟨#[]⟩, .string s, .string ⟨#[]⟩, .string ⟨#[]⟩, .bool false]] W fun e w' => e = .returned (.tuple #[.string ⟨#[]⟩, .int .i64 30]) ∧ Below W.heap.size W w') := fun W hW => enc_no (out_fits s hs) eo W hW
  have ew := watch_enc_yes s (by omega)
  have H3 : Hid (∀ W, Env W → Calls Tryz.prog 11 #[.agg #[.int .i64 22, .int .i64 1, .int .i64 1, .int .i64 1, .int .i64 0, .int .i64 0, .int .i64 0, .int .i64 0, .int .i64 0, .string ⟨#[119]⟩, .string s, .string ⟨#[]⟩, .string ⟨#[]⟩, .bool false]] W fun e w' => e = .returned (.tuple #[.string (str (watchL s)), .int .i64 0]) ∧ Below W.heap.size W w') := fun W hW => enc_yes (watch_fits s hs) ew W hW
  have C3 : Hid (∀ W, Env W → Calls Tryz.prog 14 #[.string (str (watchL s))] W fun e w' => e = .returned (.int .i64 1) ∧ Below W.heap.size W w') := fun W hW => cls_of (enc_length (watch_fits s hs) ew) ew rfl W hW
  have em := msg_enc_yes s (by omega)
  have H4 : Hid (∀ W, Env W → Calls Tryz.prog 11 #[.agg #[.int .i64 23, .int .i64 0, .int .i64 0, .int .i64 0, .int .i64 0, .int .i64 0, .int .i64 0, .int .i64 0, .int .i64 0, .string ⟨#[]⟩, .string s, .string ⟨#[]⟩, .string ⟨#[]⟩, .bool false]] W fun e w' => e = .returned (.tuple #[.string (str (headOf 23 ++ esc s.data.toList)), .int .i64 0]) ∧ Below W.heap.size W w') := fun W hW => enc_yes (msg_fits s hs) em W hW
  have C4 : Hid (∀ W, Env W → Calls Tryz.prog 14 #[.string (str (headOf 23 ++ esc s.data.toList))] W fun e w' => e = .returned (.int .i64 1) ∧ Below W.heap.size W w') := fun W hW => cls_of (enc_length (msg_fits s hs) em) em rfl W hW
  obtain ⟨l1, hl1⟩ : ∃ l, str (escB s.data.toList) = l := ⟨_, rfl⟩
  rw [hl1] at H1 C1
  obtain ⟨l3, hl3⟩ : ∃ l, str (watchL s) = l := ⟨_, rfl⟩
  rw [hl3] at H3 C3
  obtain ⟨l4, hl4⟩ : ∃ l, str (headOf 23 ++ esc s.data.toList) = l := ⟨_, rfl⟩
  rw [hl4] at H4 C4
  have HE : Hid (∀ W, Below w.heap.size w W → Env W) := fun W h => hE.below h
  have HB0 : Hid (Below w.heap.size w w) := Below.refl _ _
  unfold slim at hs
  clear hE eb eo ew em hl1 hl3 hl4
  go_enter Tryz.func5, Tryz.ntmps5
  go_wp2_with fail
  refine (H1.out _ (HE.out _ HB0.out)).mono ?_
  rintro e w1 ⟨rfl, hb⟩
  have HB1 : Hid (Below w.heap.size w w1) := below_step HB0.out hb
  clear hb H1
  go_wp2_with fail
  refine (C1.out _ (HE.out _ HB1.out)).mono ?_
  rintro e w2 ⟨rfl, hb⟩
  have HB2 : Hid (Below w.heap.size w w2) := below_step HB1.out hb
  clear hb C1
  go_wp2_with fail
  refine (H2.out _ (HE.out _ HB2.out)).mono ?_
  rintro e w3 ⟨rfl, hb⟩
  have HB3 : Hid (Below w.heap.size w w3) := below_step HB2.out hb
  clear hb H2
  go_wp2_with fail
  refine (H3.out _ (HE.out _ HB3.out)).mono ?_
  rintro e w4 ⟨rfl, hb⟩
  have HB4 : Hid (Below w.heap.size w w4) := below_step HB3.out hb
  clear hb H3
  go_wp2_with fail
  refine (H4.out _ (HE.out _ HB4.out)).mono ?_
  rintro e w5 ⟨rfl, hb⟩
  have HB5 : Hid (Below w.heap.size w w5) := below_step HB4.out hb
  clear hb H4
  go_wp2_with fail
  refine (C3.out _ (HE.out _ HB5.out)).mono ?_
  rintro e w6 ⟨rfl, hb⟩
  have HB6 : Hid (Below w.heap.size w w6) := below_step HB5.out hb
  clear hb C3
  go_wp2_with fail
  refine (C4.out _ (HE.out _ HB6.out)).mono ?_
  rintro e w7 ⟨rfl, hb⟩
  have HB7 : Hid (Below w.heap.size w w7) := below_step HB6.out hb
  clear hb C4
  go_wp2
  go_ret
  exact ⟨rfl, HB7.out⟩

set_option maxRecDepth 20000 in
set_option maxHeartbeats 1000000 in
theorem forged_big (s : ByteArray) (hs : s.size ≤ slim) (hc : 1024 < s.size) (w : World) (hE : Env w) :
    Calls Tryz.prog 5 #[.string s] w fun e w' => e = .returned (.bool true) ∧ Below w.heap.size w w' := by
  have eb := body_enc s
  have H1 : Hid (∀ W, Env W → Calls Tryz.prog 11 #[.agg #[.int .i64 4, .int .i64 0, .int .i64 0, .int .i64 0, .int .i64 0, .int .i64 0, .int .i64 0, .int .i64 0, .int .i64 0, .string ⟨#[]⟩, .string s, .string ⟨#[]⟩, .string ⟨#[]⟩, .bool false]] W fun e w' => e = .returned (.tuple #[.string (str (escB s.data.toList)), .int .i64 0]) ∧ Below W.heap.size W w') := fun W hW => enc_yes (body_fits s hs) eb W hW
  have C1 : Hid (∀ W, Env W → Calls Tryz.prog 14 #[.string (str (escB s.data.toList))] W fun e w' => e = .returned (.int .i64 3) ∧ Below W.heap.size W w') := fun W hW => cls_of (enc_length (body_fits s hs) eb) eb rfl W hW
  have eo := out_enc_no s (by omega)
  have H2 : Hid (∀ W, Env W → Calls Tryz.prog 11 #[.agg #[.int .i64 5, .int .i64 0, .int .i64 0, .int .i64 1, .int .i64 0, .int .i64 0, .int .i64 0, .int .i64 0, .int .i64 0, .string ⟨#[]⟩, .string s, .string ⟨#[]⟩, .string ⟨#[]⟩, .bool false]] W fun e w' => e = .returned (.tuple #[.string ⟨#[]⟩, .int .i64 30]) ∧ Below W.heap.size W w') := fun W hW => enc_no (out_fits s hs) eo W hW
  have ew := watch_enc_no s (by omega)
  have H3 : Hid (∀ W, Env W → Calls Tryz.prog 11 #[.agg #[.int .i64 22, .int .i64 1, .int .i64 1, .int .i64 1, .int .i64 0, .int .i64 0, .int .i64 0, .int .i64 0, .int .i64 0, .string ⟨#[119]⟩, .string s, .string ⟨#[]⟩, .string ⟨#[]⟩, .bool false]] W fun e w' => e = .returned (.tuple #[.string ⟨#[]⟩, .int .i64 30]) ∧ Below W.heap.size W w') := fun W hW => enc_no (watch_fits s hs) ew W hW
  have em := msg_enc_no s (by omega)
  have H4 : Hid (∀ W, Env W → Calls Tryz.prog 11 #[.agg #[.int .i64 23, .int .i64 0, .int .i64 0, .int .i64 0, .int .i64 0, .int .i64 0, .int .i64 0, .int .i64 0, .int .i64 0, .string ⟨#[]⟩, .string s, .string ⟨#[]⟩, .string ⟨#[]⟩, .bool false]] W fun e w' => e = .returned (.tuple #[.string ⟨#[]⟩, .int .i64 30]) ∧ Below W.heap.size W w') := fun W hW => enc_no (msg_fits s hs) em W hW
  obtain ⟨l1, hl1⟩ : ∃ l, str (escB s.data.toList) = l := ⟨_, rfl⟩
  rw [hl1] at H1 C1
  have HE : Hid (∀ W, Below w.heap.size w W → Env W) := fun W h => hE.below h
  have HB0 : Hid (Below w.heap.size w w) := Below.refl _ _
  unfold slim at hs
  clear hE eb eo ew em hl1
  go_enter Tryz.func5, Tryz.ntmps5
  go_wp2_with fail
  refine (H1.out _ (HE.out _ HB0.out)).mono ?_
  rintro e w1 ⟨rfl, hb⟩
  have HB1 : Hid (Below w.heap.size w w1) := below_step HB0.out hb
  clear hb H1
  go_wp2_with fail
  refine (C1.out _ (HE.out _ HB1.out)).mono ?_
  rintro e w2 ⟨rfl, hb⟩
  have HB2 : Hid (Below w.heap.size w w2) := below_step HB1.out hb
  clear hb C1
  go_wp2_with fail
  refine (H2.out _ (HE.out _ HB2.out)).mono ?_
  rintro e w3 ⟨rfl, hb⟩
  have HB3 : Hid (Below w.heap.size w w3) := below_step HB2.out hb
  clear hb H2
  go_wp2_with fail
  refine (H3.out _ (HE.out _ HB3.out)).mono ?_
  rintro e w4 ⟨rfl, hb⟩
  have HB4 : Hid (Below w.heap.size w w4) := below_step HB3.out hb
  clear hb H3
  go_wp2_with fail
  refine (H4.out _ (HE.out _ HB4.out)).mono ?_
  rintro e w5 ⟨rfl, hb⟩
  have HB5 : Hid (Below w.heap.size w w5) := below_step HB4.out hb
  clear hb H4
  go_wp2
  go_ret
  exact ⟨rfl, HB5.out⟩

theorem wireForged_walk (s : ByteArray) (hs1 : s.size ≤ 1048576) (w : World) (hE : Env w) :
    Calls Tryz.prog 5 #[.string s] w fun e w' => e = .returned (.bool true) ∧ Below w.heap.size w w' := by
  have hs : s.size ≤ slim := Nat.le_trans hs1 (by decide)
  by_cases h1 : s.size = 0
  · exact forged_empty s hs h1 w hE
  · by_cases h2 : s.size ≤ 256
    · exact forged_small s hs ⟨by omega, h2⟩ w hE
    · by_cases h3 : s.size ≤ 1024
      · exact forged_mid s hs ⟨by omega, h3⟩ w hE
      · exact forged_big s hs (by omega) w hE

end Go.Proofs.YtcgpgnifaeikeaaGreatDoor
