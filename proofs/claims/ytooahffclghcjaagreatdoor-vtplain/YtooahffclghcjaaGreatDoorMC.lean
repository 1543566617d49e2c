/-
  A screen that is fed: what lives, and its bytes one by one.
  A control sequence's bytes.
-/
import Derived.Test.YtooahffclghcjaaGreatDoorVReadB
import Derived.Test.YtooahffclghcjaaGreatDoorQApp
import Derived.Test.YtooahffclghcjaaGreatDoorVMade
namespace Go.Proofs.YtooahffclghcjaaGreatDoor
open Go.RowKit
set_option linter.unusedVariables false
set_option maxRecDepth 100000

theorem info5V : (Tryz.prog.info? 5).map (fun i => (i.zero, i.size, i.bytes)) = some (some (.int .u8 0), 1, 1) := by kernel_rfl
theorem underBytesV : Tryz.prog.underlying 51 = some (.slice 5) := by kernel_rfl
/-- A screen that is younger than w0. -/
structure Live (w0 w : World) (b : Nat) (s : Sc) (G : Nat) (rs : List (Nat × List Gl)) (n : Nat) (xs : List Value) : Prop where
  scn : Scn w b s G rs
  held : Row w 5 1 s.held n xs
  below : Below w0.heap.size w0 w
  yb : w0.heap.size ≤ b
  yr : ∀ r ∈ rs, w0.heap.size ≤ r.1
  yh : ∀ g, s.held.ownBlock = some g → w0.heap.size ≤ g
theorem Live.hne {w0 w : World} {b : Nat} {s : Sc} {G : Nat} {rs : List (Nat × List Gl)} {n : Nat} {xs : List Value} (h : Live w0 w b s G rs n xs) {g : Nat} (hg : s.held.ownBlock = some g) : g ∉ feet b rs := by
  obtain ⟨cur, hc⟩ := h.held.block hg
  intro hm
  rcases List.mem_cons.1 hm with e | e
  · subst e
    have h1 := h.scn.at_
    rw [ScAt, hc] at h1
    simp at h1
  · obtain ⟨r, hr, e⟩ := List.mem_map.1 e
    have h1 := h.scn.rows.row r hr
    rw [GAt, e, hc] at h1
    simp at h1
theorem feet_young {w0 w : World} {b : Nat} {s : Sc} {G : Nat} {rs : List (Nat × List Gl)} {n : Nat} {xs : List Value} (h : Live w0 w b s G rs n xs) : ∀ k ∈ feet b rs, w0.heap.size ≤ k := by
  intro k hk
  rcases List.mem_cons.1 hk with e | e
  · subst e; exact h.yb
  · obtain ⟨r, hr, e⟩ := List.mem_map.1 e
    rw [← e]; exact h.yr r hr
/-- What was gathered stays. -/
theorem Live.turn {w0 w w' : World} {b : Nat} {s s' : Sc} {G : Nat} {rs rs' : List (Nat × List Gl)} {n : Nat} {xs : List Value} (h : Live w0 w b s G rs n xs) (hs : Scn w' b s' G rs') (hb : But (feet b rs) w w') (hh : s'.held = s.held) (hr : rs'.map Prod.fst = rs.map Prod.fst) : Live w0 w' b s' G rs' n xs := by
  refine ⟨hs, ?_, hb.under h.below h.below.size (feet_young h), h.yb, fun r hr' => ?_, fun g hg => h.yh g (by rw [← hh]; exact hg)⟩
  · rw [hh]
    exact h.held.but hb (fun g hg => h.hne hg)
  · have h1 : r.1 ∈ rs.map Prod.fst := by rw [← hr]; exact List.mem_map.2 ⟨r, hr', rfl⟩
    obtain ⟨r2, h2, e⟩ := List.mem_map.1 h1
    rw [← e]; exact h.yr r2 h2
/-- The screen's own block alone, and what was gathered. -/
theorem Live.turnB {w0 w w' : World} {b : Nat} {s s' : Sc} {G : Nat} {rs : List (Nat × List Gl)} {n n' : Nat} {xs xs' : List Value} (h : Live w0 w b s G rs n xs) (hs : ScAt w' b s') (hv : s'.rows = s.rows) (hb : But [b] w w') (hr : Row w' 5 1 s'.held n' xs') (hy : ∀ g, s'.held.ownBlock = some g → w0.heap.size ≤ g) : Live w0 w' b s' G rs n' xs' := by
  obtain ⟨h1, h2⟩ := h.scn.turn hs hv hb
  exact ⟨h1, hr, h2.under h.below h.below.size (feet_young h), h.yb, h.yr, hy⟩
theorem turnB0 {w0 w w' : World} {b : Nat} {s s' : Sc} {G : Nat} {rs : List (Nat × List Gl)} {n : Nat} {xs : List Value} (h : Live w0 w b s G rs n xs) (hs : ScAt w' b s') (hv : s'.rows = s.rows) (hb : But [b] w w') (hh : s'.held = s.held) : Live w0 w' b s' G rs n xs := by
  obtain ⟨h1, h2⟩ := h.scn.turn hs hv hb
  exact h.turn h1 h2 hh rfl

set_option maxHeartbeats 1000000 in
/-- A byte that does not leave every state. -/
theorem take_in {w : World} {b : Nat} {s : Sc} (h : ScAt w b s) (h0 : s.hv = 0) (c : Int) (h1 : c ≠ 24) (h2 : c ≠ 26) (h3 : c ≠ 27) {R : World → Prop} (hT : Calls Tryz.prog 22 #[.pointer (some ⟨b, 0, none⟩), .int .u8 c] w fun x w' => x = .returned (.tuple #[]) ∧ R w') :
    Calls Tryz.prog 11 #[.pointer (some ⟨b, 0, none⟩), .int .u8 c] w fun x w' => x = .returned (.tuple #[]) ∧ R w' := by
  have HT := hidK hT
  have c35 := h.c35
  rw [h0] at c35
  have e1 : (c == 24) = false := by simpa using h1
  have e2 : (c == 26) = false := by simpa using h2
  have e3 : (c == 27) = false := by simpa using h3
  clear h h0 hT h1 h2 h3
  go_enter Tryz.func11, Tryz.ntmps11
  go_wp2_with fail
  refine HT.out.mono ?_
  rintro e w1 ⟨rfl, hr⟩
  have HR := hidK hr
  clear hr
  go_wp2_with fail
  go_end0
  exact ⟨rfl, HR.out⟩
set_option maxHeartbeats 1000000 in
/-- A letter in the ground. -/
theorem inside_letter {w : World} {b : Nat} {s : Sc} (h : ScAt w b s) (h0 : s.st = 0) (c : Nat) (h1 : 32 ≤ c) (h2 : c < 127) {R : World → Prop} (hT : Calls Tryz.prog 19 #[.pointer (some ⟨b, 0, none⟩), .int .i32 (c : Int)] w fun x w' => x = .returned (.tuple #[]) ∧ R w') :
    Calls Tryz.prog 22 #[.pointer (some ⟨b, 0, none⟩), .int .u8 (c : Int)] w fun x w' => x = .returned (.tuple #[]) ∧ R w' := by
  have HT := hidK hT
  have c29 := h.c29
  rw [h0] at c29
  have h3 : ¬ (c : Int) < 32 := by omega
  have e3 : ((c : Int) == 127) = false := by simp; omega
  have h4 : ¬ (127 : Int) < (c : Int) := by omega
  have h5 : IntKind.i32.wrap (c : Int) = (c : Int) := by
    have := IntKind.wrap_i32 (c : Int)
    omega
  clear h h0 hT
  go_enter Tryz.func22, Tryz.ntmps22
  go_wp2_with fail
  refine HT.out.mono ?_
  rintro e w1 ⟨rfl, hr⟩
  have HR := hidK hr
  clear hr
  go_wp2_with fail
  go_end0
  exact ⟨rfl, HR.out⟩
set_option maxHeartbeats 1000000 in
/-- A control in the ground. -/
theorem inside_control {w : World} {b : Nat} {s : Sc} (h : ScAt w b s) (h0 : s.st = 0) (c : Int) (h1 : c < 32) {R : World → Prop} (hT : Calls Tryz.prog 39 #[.pointer (some ⟨b, 0, none⟩), .int .u8 c] w fun x w' => x = .returned (.tuple #[]) ∧ R w') :
    Calls Tryz.prog 22 #[.pointer (some ⟨b, 0, none⟩), .int .u8 c] w fun x w' => x = .returned (.tuple #[]) ∧ R w' := by
  have HT := hidK hT
  have c29 := h.c29
  rw [h0] at c29
  clear h h0 hT
  go_enter Tryz.func22, Tryz.ntmps22
  go_wp2_with fail
  refine HT.out.mono ?_
  rintro e w1 ⟨rfl, hr⟩
  have HR := hidK hr
  clear hr
  go_wp2_with fail
  go_end0
  exact ⟨rfl, HR.out⟩
set_option maxHeartbeats 1000000 in
theorem control_lf {w : World} {b : Nat} {s : Sc} (h : ScAt w b s) (h0 : s.nl = false) {R : World → Prop} (hT : Calls Tryz.prog 52 #[.pointer (some ⟨b, 0, none⟩)] w fun x w' => x = .returned (.tuple #[]) ∧ R w') :
    Calls Tryz.prog 39 #[.pointer (some ⟨b, 0, none⟩), .int .u8 10] w fun x w' => x = .returned (.tuple #[]) ∧ R w' := by
  have HT := hidK hT
  have c24 := h.c24
  rw [h0] at c24
  clear h h0 hT
  go_enter Tryz.func39, Tryz.ntmps39
  go_wp2_with fail
  refine HT.out.mono ?_
  rintro e w1 ⟨rfl, hr⟩
  have HR := hidK hr
  clear hr
  go_wp2_with fail
  go_end0
  exact ⟨rfl, HR.out⟩
set_option maxHeartbeats 1000000 in
/-- ESC. -/
theorem take_esc {w : World} {b : Nat} {s : Sc} (h : ScAt w b s) (h0 : s.hv = 0) (h1 : s.st = 0) (ad : Option Addr) (n cap : Nat) (hs : s.held = .slice ad n cap) : Calls Tryz.prog 11 #[.pointer (some ⟨b, 0, none⟩), .int .u8 27] w fun x w' => x = .returned (.tuple #[]) ∧ ScAt w' b { s with st := 1, held := .slice ad 0 cap } ∧ But [b] w w' := by
  have HE : Hid (Calls Tryz.prog 20 #[.pointer (some ⟨b, 0, none⟩), .int .i64 1] w fun x w' => x = .returned (.tuple #[]) ∧ ScAt w' b { s with st := 1, held := .slice ad 0 cap } ∧ But [b] w w') := enter_any h ad n cap hs 1
  have c35 := h.c35
  rw [h0] at c35
  have c29 := h.c29
  rw [h1] at c29
  clear h h0 h1 hs
  go_enter Tryz.func11, Tryz.ntmps11
  go_wp2_with fail
  refine HE.out.mono ?_
  rintro e w1 ⟨rfl, hr⟩
  have HR := hidK hr
  clear hr
  go_wp2_with fail
  go_end0
  exact ⟨rfl, HR.out⟩
theorem begins_csi (w : World) : Calls Tryz.prog 63 #[.int .u8 91] w fun x w' => x = .returned (.int .i64 2) ∧ w = w' := by
  go_enter Tryz.func63, Tryz.ntmps63
  go_wp2_with fail
  go_ret
  exact ⟨rfl, rfl⟩
set_option maxHeartbeats 1000000 in
/-- [ behind ESC. -/
theorem inside_csi {w : World} {b : Nat} {s : Sc} (h : ScAt w b s) (h1 : s.st = 1) (ad : Option Addr) (cap : Nat) (hs : s.held = .slice ad 0 cap) : Calls Tryz.prog 22 #[.pointer (some ⟨b, 0, none⟩), .int .u8 91] w fun x w' => x = .returned (.tuple #[]) ∧ ScAt w' b { s with st := 2, held := .slice ad 0 cap } ∧ But [b] w w' := by
  have HE : Hid (Calls Tryz.prog 20 #[.pointer (some ⟨b, 0, none⟩), .int .i64 2] w fun x w' => x = .returned (.tuple #[]) ∧ ScAt w' b { s with st := 2, held := .slice ad 0 cap } ∧ But [b] w w') := enter_any h ad 0 cap hs 2
  have HBg : Hid (∀ W, Calls Tryz.prog 63 #[.int .u8 91] W fun x w' => x = .returned (.int .i64 2) ∧ W = w') := begins_csi
  have c29 := h.c29
  rw [h1] at c29
  have c30 := h.c30
  rw [hs] at c30
  have HEs : Hid (Calls Tryz.prog 41 #[.pointer (some ⟨b, 0, none⟩), .int .u8 91] w fun x w' => x = .returned (.tuple #[]) ∧ ScAt w' b { s with st := 2, held := .slice ad 0 cap } ∧ But [b] w w') := by
    clear h h1 hs c29
    go_enter Tryz.func41, Tryz.ntmps41
    go_wp2_with (go_at_call 63; refine (HBg.out _).mono ?_; rintro e w0 ⟨rfl, rfl⟩)
    refine HE.out.mono ?_
    rintro e w1 ⟨rfl, hr⟩
    have HR := hidK hr
    clear hr
    go_wp2_with fail
    go_end0
    exact ⟨rfl, HR.out⟩
  clear h h1 hs c30
  go_enter Tryz.func22, Tryz.ntmps22
  go_wp2_with fail
  refine HEs.out.mono ?_
  rintro e w1 ⟨rfl, hr⟩
  have HR := hidK hr
  clear hr
  go_wp2_with fail
  go_end0
  exact ⟨rfl, HR.out⟩
end Go.Proofs.YtooahffclghcjaaGreatDoor
namespace Go.Proofs.YtooahffclghcjaaGreatDoor
open Go.RowKit
set_option linter.unusedVariables false
set_option maxRecDepth 100000

set_option maxHeartbeats 1000000 in
theorem gather_any {w0 w : World} {b : Nat} {s : Sc} {G : Nat} {rs : List (Nat × List Gl)} {n : Nat} {xs : List Value} (h : Live w0 w b s G rs n xs) (hn : n < 257) (c : Int) : Calls Tryz.prog 59 #[.pointer (some ⟨b, 0, none⟩), .int .u8 c, .int .i64 257] w fun x w' => x = .returned (.tuple #[]) ∧ ∃ v', Live w0 w' b { s with held := v' } G rs (n + 1) (xs ++ [.int .u8 c]) := by
  obtain ⟨ad, cap, hv, _, _, _, _⟩ := h.held.shape
  have H := hidK h
  have c30 := h.scn.at_.c30
  rw [hv] at c30
  have HV := hidK hv
  have hn2 : (n : Int) < 257 := by omega
  have hb30 : b < w.heap.size := h.scn.at_.lt
  clear h hv
  go_enter Tryz.func59, Tryz.ntmps59
  go_wp2_with (refine wpList_append_row (w.alloc (.cells #[.int .u8 c] 5)) rfl _ _ 51 51 rfl underBytesV info5V rfl (v := .slice ad n cap) (by simp [Act.eval]) (u := .slice (some ⟨w.heap.size, 0, none⟩) 1 1) (by simp [Act.eval]) ((HV.out ▸ H.out.held).below ((Below.refl _ _).alloc (Nat.le_refl _) _)) (Src.block underBytesV _ _ [.int .u8 c] 5 1 (heap_alloc_new w _) rfl rfl) ?x1 ?x2 ?x3)
  case x1 => omega
  case x2 => unfold maxLen; omega
  intro v1 w1 hr1 hg1
  obtain ⟨ad1, cap1, hv1, _, _, _, _⟩ := hr1.out.shape
  have hbs : But (s.held.ownBlock.toList) w w1 := by
    rw [HV.out]
    exact ((But.refl _ _).alloc _).trans hg1.out.but
  have HBs := hidK hbs
  have hS1 : ScAt w1 b s := H.out.scn.at_.but hbs (fun hm => by
    have hm2 : s.held.ownBlock = some b := by simpa using hm
    exact H.out.hne hm2 (by simp [feet]))
  have HS1 := hidK hS1
  have d30 := hS1.c30
  have f30 := hS1.free 30
  clear hS1 hbs c30
  subst hv1
  go_wp2_with fail
  go_end0
  obtain ⟨v1, hv1⟩ : ∃ v1, Value.slice ad1 (n + 1) cap1 = v1 := ⟨_, rfl⟩
  rw [hv1] at hr1 hg1 ⊢
  refine ⟨rfl, v1, ?_⟩
  have hgb : ∀ g, v1.ownBlock = some g → g ≠ b := fun g hg e => by
    obtain ⟨cur, hc⟩ := hr1.out.block hg
    have h1 := HS1.out
    rw [ScAt, ← e, hc] at h1
    simp at h1
  have hL : Live w0 w1 b s G rs n xs ∨ True := .inr trivial
  have hrow : RowsAt w1 G rs 0 := H.out.scn.rows.but HBs.out (fun hm => by
      have hm2 : s.held.ownBlock = some G := by simpa using hm
      obtain ⟨cur, hc⟩ := H.out.held.block hm2
      have h1 := H.out.scn.rows.blk
      rw [hc] at h1
      simp at h1) (fun r hr hm => by
      have hm2 : s.held.ownBlock = some r.1 := by simpa using hm
      exact H.out.hne hm2 (by simp only [feet, List.mem_cons, List.mem_map]; exact .inr ⟨r, hr, rfl⟩))
  have hbel : Below w0.heap.size w0 w1 := HBs.out.under H.out.below H.out.below.size (fun g hg => H.out.yh g (by simpa using hg))
  have hsc : Scn w1 b s G rs := ⟨HS1.out, hrow, H.out.scn.val⟩
  obtain ⟨t1, t2⟩ := hsc.turn (s' := { s with held := v1 }) (.fin (put_at HS1.out 30 v1) (by rfl)) rfl (But.one 30 v1)
  refine ⟨t1, hr1.out.keep (fun g hg => Below.heap_setCell _ _ _ _ (fun e => hgb g hg e)), (But.one (b := b) 30 v1).under hbel hbel.size (by simpa using H.out.yb), H.out.yb, H.out.yr, fun g hg => ?_⟩
  rcases hg1.out.own with e | e
  · exact H.out.yh g (by rw [HV.out]; rw [← e]; exact hg)
  · have h9 : v1.ownBlock = some g := hg
    rw [e] at h9
    cases h9
    simp
    have := H.out.below.size
    omega
set_option maxHeartbeats 1000000 in
/-- A digit of a control sequence. -/
theorem inside_digit {w0 w : World} {b : Nat} {s : Sc} {G : Nat} {rs : List (Nat × List Gl)} {n : Nat} {xs : List Value} (h : Live w0 w b s G rs n xs) (hn : n < 257) (h1 : s.st = 2) (c : Int) (hc1 : 48 ≤ c) (hc2 : c < 58) : Calls Tryz.prog 22 #[.pointer (some ⟨b, 0, none⟩), .int .u8 c] w fun x w' => x = .returned (.tuple #[]) ∧ ∃ v', Live w0 w' b { s with held := v' } G rs (n + 1) (xs ++ [.int .u8 c]) := by
  have HG : Hid (Calls Tryz.prog 59 #[.pointer (some ⟨b, 0, none⟩), .int .u8 c, .int .i64 257] w fun x w' => x = .returned (.tuple #[]) ∧ ∃ v', Live w0 w' b { s with held := v' } G rs (n + 1) (xs ++ [.int .u8 c])) := gather_any h hn c
  have HSe : Hid (Calls Tryz.prog 42 #[.pointer (some ⟨b, 0, none⟩), .int .u8 c] w fun x w' => x = .returned (.tuple #[]) ∧ ∃ v', Live w0 w' b { s with held := v' } G rs (n + 1) (xs ++ [.int .u8 c])) := by
    have h3 : c < 64 := by omega
    clear h
    go_enter Tryz.func42, Tryz.ntmps42
    go_wp2_with fail
    refine HG.out.mono ?_
    rintro e w1 ⟨rfl, hr⟩
    have HR := hidK hr
    clear hr
    go_wp2_with fail
    refine bodyPost_ret (results_none rfl _ _ _) rfl ?_
    exact ⟨rfl, HR.out⟩
  have c29 := h.scn.at_.c29
  rw [h1] at c29
  have h3 : ¬ c < 32 := by omega
  have e3 : (c == 127) = false := by simp; omega
  have h4 : ¬ 127 < c := by omega
  clear h h1 HG
  go_enter Tryz.func22, Tryz.ntmps22
  go_wp2_with fail
  refine HSe.out.mono ?_
  rintro e w1 ⟨rfl, hr⟩
  have HR := hidK hr
  clear hr
  go_wp2_with fail
  go_end0
  exact ⟨rfl, HR.out⟩
attribute [-go_sem] Instr.loadAt
attribute [local go_sem low] open_loadAt
attribute [-go_sem] Instr.storeAt
attribute [local go_sem low] open_storeAtV
set_option maxHeartbeats 2000000 in
/-- m behind ESC [ 31. -/
theorem inside_m {w0 w : World} {b : Nat} {s : Sc} {G : Nat} {rs : List (Nat × List Gl)} (h : Live w0 w b s G rs 2 [.int .u8 51, .int .u8 49]) (h1 : s.st = 2) {y x n : Nat} (hy : s.cur.y = (y : Int)) (hx : s.cur.x = (x : Int)) (hw : s.w = (n : Int)) (hn : n ≤ 1000) (hx2 : x ≤ 1000) {g : Nat} {gs : List Gl} (hg : rs[y]? = some (g, gs)) : Calls Tryz.prog 22 #[.pointer (some ⟨b, 0, none⟩), .int .u8 109] w fun x w' => x = .returned (.tuple #[]) ∧ Live w0 w' b (redd { s with st := 0 }) G rs 2 [.int .u8 51, .int .u8 49] := by
  have HSe : Hid (Calls Tryz.prog 42 #[.pointer (some ⟨b, 0, none⟩), .int .u8 109] w fun x w' => x = .returned (.tuple #[]) ∧ Live w0 w' b (redd { s with st := 0 }) G rs 2 [.int .u8 51, .int .u8 49]) := by
    obtain ⟨ad, cap, hv, _, _, hnil, hsome⟩ := h.held.shape
    cases ad with
    | none => exact absurd (hnil rfl).1 (by decide)
    | some a =>
      obtain ⟨gh, o, rfl, hown, hlt, hcel⟩ := hsome a rfl
      have H := hidK h
      have c29 := h.scn.at_.c29
      have f29 := h.scn.at_.free 29
      have c30 := h.scn.at_.c30
      rw [hv] at c30
      have hne : gh ≠ b := fun e => h.hne hown (by rw [e]; simp [feet])
      have HL1 : Hid (Live w0 (w.setCell ⟨b, 29, none⟩ (.int .i64 0)) b { s with st := 0 } G rs 2 [.int .u8 51, .int .u8 49]) := turnB0 h (.fin (put_at h.scn.at_ 29 _) (by rfl)) rfl (But.one 29 _) rfl
      have hk := hcel (w.setCell ⟨b, 29, none⟩ (.int .i64 0)) (Below.heap_setCell _ _ _ _ (fun e => hne e))
      have HRo : Hid (Calls Tryz.prog 65 #[.slice (some ⟨gh, o, none⟩) 2 cap, .int .u8 109] (w.setCell ⟨b, 29, none⟩ (.int .i64 0)) fun r w' => r = .returned (.tuple #[.agg (ordC 31 1), .bool true]) ∧ Below (w.setCell ⟨b, 29, none⟩ (.int .i64 0)).heap.size (w.setCell ⟨b, 29, none⟩ (.int .i64 0)) w') := readOrder_31 (hk.1 0 _ rfl) (hk.1 1 _ rfl)
      have HOb : Hid (∀ W, Scn W b { s with st := 0 } G rs → Calls Tryz.prog 66 #[.pointer (some ⟨b, 0, none⟩), .agg (ordC 31 1)] W fun r w' => r = .returned (.tuple #[]) ∧ ScAt w' b (redd { s with st := 0 }) ∧ But [b] W w') := fun W hW => obey_ord hW hy hx hw hn hx2 hg
      have hlb : b < w.heap.size := h.scn.at_.lt
      clear h hv hy hx hw hg hk hcel hnil hsome
      go_enter Tryz.func42, Tryz.ntmps42
      go_wp2_with fail
      refine HRo.out.mono ?_
      rintro e w2 ⟨rfl, hb2⟩
      have hst := store_new (P := Tryz.prog) w2 120 ord0 (ordC 31 1) infoOrd rfl rfl
      have hld := ord_loadC (heap_alloc_new w2 (.cells (ordC 31 1) 120))
      unfold ord0 at hst
      have HB2 := hidK hb2
      clear hb2 c29 f29 c30
      go_wp2_with fail
      refine (HOb.out _ ?_).mono ?_
      · exact (HL1.out.scn.below HB2.out).below ((Below.refl _ _).alloc (Nat.le_refl _) _)
      rintro e w3 ⟨rfl, hs3, hb3⟩
      have H3 := hidK (And.intro hs3 hb3)
      clear hs3 hb3 hst hld
      go_wp2_with fail
      go_end0
      refine ⟨rfl, ?_⟩
      have hbb := HB2.out.trans (((Below.refl w2.heap.size w2).alloc (Nat.le_refl _) (.cells (ordC 31 1) 120)).mono HB2.out.size)
      have hL2 : Live w0 (w2.alloc (.cells (ordC 31 1) 120)) b { s with st := 0 } G rs 2 [.int .u8 51, .int .u8 49] := ⟨HL1.out.scn.below hbb, HL1.out.held.below hbb, HL1.out.below.trans (hbb.mono HL1.out.below.size), HL1.out.yb, HL1.out.yr, HL1.out.yh⟩
      exact turnB0 hL2 H3.out.1 rfl H3.out.2 rfl
  have c29 := h.scn.at_.c29
  rw [h1] at c29
  clear h h1 hy hx hw hg
  go_enter Tryz.func22, Tryz.ntmps22
  go_wp2_with fail
  refine HSe.out.mono ?_
  rintro e w1 ⟨rfl, hr⟩
  have HR := hidK hr
  clear hr
  go_wp2_with fail
  go_end0
  exact ⟨rfl, HR.out⟩
end Go.Proofs.YtooahffclghcjaaGreatDoor
