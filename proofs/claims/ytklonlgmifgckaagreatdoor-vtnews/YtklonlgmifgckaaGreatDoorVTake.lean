/-
  A screen that is fed: what lives, and its bytes one by one.
-/
import Derived.Test.YtklonlgmifgckaaGreatDoorVReadB
import Derived.Test.YtklonlgmifgckaaGreatDoorQApp
import Derived.Test.YtklonlgmifgckaaGreatDoorVMade
namespace Go.Proofs.YtklonlgmifgckaaGreatDoor
open Go.RowKit
set_option linter.unusedVariables false
set_option maxRecDepth 100000

theorem info5V : (Tryz.prog.info? 5).map (fun i => (i.zero, i.size, i.bytes)) = some (some (.int .u8 0), 1, 1) := by kernel_rfl
theorem underBytesV : Tryz.prog.underlying 70 = some (.slice 5) := by kernel_rfl
/-- A screen that is younger than w0. -/
structure Live (w0 w : World) (b : Nat) (s : Sc) (G : Nat) (rs : List (Nat × List Gl)) (n : Nat) (xs : List Value) : Prop where
  scn : Scn w b s G rs
  held : Row w 5 1 s.held n xs
  below : Below w0.heap.size w0 w
  yb : w0.heap.size ≤ b
  yr : ∀ r ∈ rs, w0.heap.size ≤ r.1
  yh : ∀ g, s.held.ownBlock = some g → w0.heap.size ≤ g
theorem Live.hne {w0 w : World} {b : Nat} {s : Sc} {G : Nat} {rs : List (Nat × List Gl)} {n : Nat} {xs : List Value} (h : Live w0 w b s G rs n xs) {g : Nat} (hg : s.held.ownBlock = some g) : g ∉ feet b rs := by
  obtain ⟨cur, hc⟩ := h.held.block hg
  intro hm
  rcases List.mem_cons.1 hm with e | e
  · subst e
    have h1 := h.scn.at_
    rw [ScAt, hc] at h1
    simp at h1
  · obtain ⟨r, hr, e⟩ := List.mem_map.1 e
    have h1 := h.scn.rows.row r hr
    rw [GAt, e, hc] at h1
    simp at h1
theorem feet_young {w0 w : World} {b : Nat} {s : Sc} {G : Nat} {rs : List (Nat × List Gl)} {n : Nat} {xs : List Value} (h : Live w0 w b s G rs n xs) : ∀ k ∈ feet b rs, w0.heap.size ≤ k := by
  intro k hk
  rcases List.mem_cons.1 hk with e | e
  · subst e; exact h.yb
  · obtain ⟨r, hr, e⟩ := List.mem_map.1 e
    rw [← e]; exact h.yr r hr
/-- What was gathered stays. -/
theorem Live.turn {w0 w w' : World} {b : Nat} {s s' : Sc} {G : Nat} {rs rs' : List (Nat × List Gl)} {n : Nat} {xs : List Value} (h : Live w0 w b s G rs n xs) (hs : Scn w' b s' G rs') (hb : But (feet b rs) w w') (hh : s'.held = s.held) (hr : rs'.map Prod.fst = rs.map Prod.fst) : Live w0 w' b s' G rs' n xs := by
  refine ⟨hs, ?_, hb.under h.below h.below.size (feet_young h), h.yb, fun r hr' => ?_, fun g hg => h.yh g (by rw [← hh]; exact hg)⟩
  · rw [hh]
    exact h.held.but hb (fun g hg => h.hne hg)
  · have h1 : r.1 ∈ rs.map Prod.fst := by rw [← hr]; exact List.mem_map.2 ⟨r, hr', rfl⟩
    obtain ⟨r2, h2, e⟩ := List.mem_map.1 h1
    rw [← e]; exact h.yr r2 h2
/-- The screen's own block alone, and what was gathered. -/
theorem Live.turnB {w0 w w' : World} {b : Nat} {s s' : Sc} {G : Nat} {rs : List (Nat × List Gl)} {n n' : Nat} {xs xs' : List Value} (h : Live w0 w b s G rs n xs) (hs : ScAt w' b s') (hv : s'.rows = s.rows) (hb : But [b] w w') (hr : Row w' 5 1 s'.held n' xs') (hy : ∀ g, s'.held.ownBlock = some g → w0.heap.size ≤ g) : Live w0 w' b s' G rs n' xs' := by
  obtain ⟨h1, h2⟩ := h.scn.turn hs hv hb
  exact ⟨h1, hr, h2.under h.below h.below.size (feet_young h), h.yb, h.yr, hy⟩
theorem turnB0 {w0 w w' : World} {b : Nat} {s s' : Sc} {G : Nat} {rs : List (Nat × List Gl)} {n : Nat} {xs : List Value} (h : Live w0 w b s G rs n xs) (hs : ScAt w' b s') (hv : s'.rows = s.rows) (hb : But [b] w w') (hh : s'.held = s.held) : Live w0 w' b s' G rs n xs := by
  obtain ⟨h1, h2⟩ := h.scn.turn hs hv hb
  exact h.turn h1 h2 hh rfl

set_option maxHeartbeats 1000000 in
/-- A byte that does not leave every state. -/
theorem take_in {w : World} {b : Nat} {s : Sc} (h : ScAt w b s) (h0 : s.hv = 0) (c : Int) (h1 : c ≠ 24) (h2 : c ≠ 26) (h3 : c ≠ 27) {R : World → Prop} (hT : Calls Tryz.prog 49 #[.pointer (some ⟨b, 0, none⟩), .int .u8 c] w fun x w' => x = .returned (.tuple #[]) ∧ R w') :
    Calls Tryz.prog 37 #[.pointer (some ⟨b, 0, none⟩), .int .u8 c] w fun x w' => x = .returned (.tuple #[]) ∧ R w' := by
  have HT := hidK hT
  have c35 := h.c35
  rw [h0] at c35
  have e1 : (c == 24) = false := by simpa using h1
  have e2 : (c == 26) = false := by simpa using h2
  have e3 : (c == 27) = false := by simpa using h3
  clear h h0 hT h1 h2 h3
  go_enter Tryz.func37, Tryz.ntmps37
  go_wp2_with fail
  refine HT.out.mono ?_
  rintro e w1 ⟨rfl, hr⟩
  have HR := hidK hr
  clear hr
  go_wp2_with fail
  go_end0
  exact ⟨rfl, HR.out⟩
set_option maxHeartbeats 1000000 in
/-- A letter in the ground. -/
theorem inside_letter {w : World} {b : Nat} {s : Sc} (h : ScAt w b s) (h0 : s.st = 0) (c : Nat) (h1 : 32 ≤ c) (h2 : c < 127) {R : World → Prop} (hT : Calls Tryz.prog 46 #[.pointer (some ⟨b, 0, none⟩), .int .i32 (c : Int)] w fun x w' => x = .returned (.tuple #[]) ∧ R w') :
    Calls Tryz.prog 49 #[.pointer (some ⟨b, 0, none⟩), .int .u8 (c : Int)] w fun x w' => x = .returned (.tuple #[]) ∧ R w' := by
  have HT := hidK hT
  have c29 := h.c29
  rw [h0] at c29
  have h3 : ¬ (c : Int) < 32 := by omega
  have e3 : ((c : Int) == 127) = false := by simp; omega
  have h4 : ¬ (127 : Int) < (c : Int) := by omega
  have h5 : IntKind.i32.wrap (c : Int) = (c : Int) := by
    have := IntKind.wrap_i32 (c : Int)
    omega
  clear h h0 hT
  go_enter Tryz.func49, Tryz.ntmps49
  go_wp2_with fail
  refine HT.out.mono ?_
  rintro e w1 ⟨rfl, hr⟩
  have HR := hidK hr
  clear hr
  go_wp2_with fail
  go_end0
  exact ⟨rfl, HR.out⟩
set_option maxHeartbeats 1000000 in
/-- A control in the ground. -/
theorem inside_control {w : World} {b : Nat} {s : Sc} (h : ScAt w b s) (h0 : s.st = 0) (c : Int) (h1 : c < 32) {R : World → Prop} (hT : Calls Tryz.prog 63 #[.pointer (some ⟨b, 0, none⟩), .int .u8 c] w fun x w' => x = .returned (.tuple #[]) ∧ R w') :
    Calls Tryz.prog 49 #[.pointer (some ⟨b, 0, none⟩), .int .u8 c] w fun x w' => x = .returned (.tuple #[]) ∧ R w' := by
  have HT := hidK hT
  have c29 := h.c29
  rw [h0] at c29
  clear h h0 hT
  go_enter Tryz.func49, Tryz.ntmps49
  go_wp2_with fail
  refine HT.out.mono ?_
  rintro e w1 ⟨rfl, hr⟩
  have HR := hidK hr
  clear hr
  go_wp2_with fail
  go_end0
  exact ⟨rfl, HR.out⟩
set_option maxHeartbeats 1000000 in
theorem control_lf {w : World} {b : Nat} {s : Sc} (h : ScAt w b s) (h0 : s.nl = false) {R : World → Prop} (hT : Calls Tryz.prog 74 #[.pointer (some ⟨b, 0, none⟩)] w fun x w' => x = .returned (.tuple #[]) ∧ R w') :
    Calls Tryz.prog 63 #[.pointer (some ⟨b, 0, none⟩), .int .u8 10] w fun x w' => x = .returned (.tuple #[]) ∧ R w' := by
  have HT := hidK hT
  have c24 := h.c24
  rw [h0] at c24
  clear h h0 hT
  go_enter Tryz.func63, Tryz.ntmps63
  go_wp2_with fail
  refine HT.out.mono ?_
  rintro e w1 ⟨rfl, hr⟩
  have HR := hidK hr
  clear hr
  go_wp2_with fail
  go_end0
  exact ⟨rfl, HR.out⟩
set_option maxHeartbeats 1000000 in
/-- ESC. -/
theorem take_esc {w : World} {b : Nat} {s : Sc} (h : ScAt w b s) (h0 : s.hv = 0) (h1 : s.st = 0) (ad : Option Addr) (n cap : Nat) (hs : s.held = .slice ad n cap) : Calls Tryz.prog 37 #[.pointer (some ⟨b, 0, none⟩), .int .u8 27] w fun x w' => x = .returned (.tuple #[]) ∧ ScAt w' b { s with st := 1, held := .slice ad 0 cap } ∧ But [b] w w' := by
  have HE : Hid (Calls Tryz.prog 47 #[.pointer (some ⟨b, 0, none⟩), .int .i64 1] w fun x w' => x = .returned (.tuple #[]) ∧ ScAt w' b { s with st := 1, held := .slice ad 0 cap } ∧ But [b] w w') := enter_any h ad n cap hs 1
  have c35 := h.c35
  rw [h0] at c35
  have c29 := h.c29
  rw [h1] at c29
  clear h h0 h1 hs
  go_enter Tryz.func37, Tryz.ntmps37
  go_wp2_with fail
  refine HE.out.mono ?_
  rintro e w1 ⟨rfl, hr⟩
  have HR := hidK hr
  clear hr
  go_wp2_with fail
  go_end0
  exact ⟨rfl, HR.out⟩
theorem begins_csi (w : World) : Calls Tryz.prog 83 #[.int .u8 91] w fun x w' => x = .returned (.int .i64 2) ∧ w = w' := by
  go_enter Tryz.func83, Tryz.ntmps83
  go_wp2_with fail
  go_ret
  exact ⟨rfl, rfl⟩
set_option maxHeartbeats 1000000 in
/-- [ behind ESC. -/
theorem inside_csi {w : World} {b : Nat} {s : Sc} (h : ScAt w b s) (h1 : s.st = 1) (ad : Option Addr) (cap : Nat) (hs : s.held = .slice ad 0 cap) : Calls Tryz.prog 49 #[.pointer (some ⟨b, 0, none⟩), .int .u8 91] w fun x w' => x = .returned (.tuple #[]) ∧ ScAt w' b { s with st := 2, held := .slice ad 0 cap } ∧ But [b] w w' := by
  have HE : Hid (Calls Tryz.prog 47 #[.pointer (some ⟨b, 0, none⟩), .int .i64 2] w fun x w' => x = .returned (.tuple #[]) ∧ ScAt w' b { s with st := 2, held := .slice ad 0 cap } ∧ But [b] w w') := enter_any h ad 0 cap hs 2
  have HBg : Hid (∀ W, Calls Tryz.prog 83 #[.int .u8 91] W fun x w' => x = .returned (.int .i64 2) ∧ W = w') := begins_csi
  have c29 := h.c29
  rw [h1] at c29
  have c30 := h.c30
  rw [hs] at c30
  have HEs : Hid (Calls Tryz.prog 65 #[.pointer (some ⟨b, 0, none⟩), .int .u8 91] w fun x w' => x = .returned (.tuple #[]) ∧ ScAt w' b { s with st := 2, held := .slice ad 0 cap } ∧ But [b] w w') := by
    clear h h1 hs c29
    go_enter Tryz.func65, Tryz.ntmps65
    go_wp2_with (go_at_call 83; refine (HBg.out _).mono ?_; rintro e w0 ⟨rfl, rfl⟩)
    refine HE.out.mono ?_
    rintro e w1 ⟨rfl, hr⟩
    have HR := hidK hr
    clear hr
    go_wp2_with fail
    go_end0
    exact ⟨rfl, HR.out⟩
  clear h h1 hs c30
  go_enter Tryz.func49, Tryz.ntmps49
  go_wp2_with fail
  refine HEs.out.mono ?_
  rintro e w1 ⟨rfl, hr⟩
  have HR := hidK hr
  clear hr
  go_wp2_with fail
  go_end0
  exact ⟨rfl, HR.out⟩
end Go.Proofs.YtklonlgmifgckaaGreatDoor
