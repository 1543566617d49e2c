/-
  The functions that make fields: each answers a field as the plain functions say.
-/
import Derived.Test.YtlgkdnmhoboinaaGreatDoorWFldD
import Derived.WalkKit
import Derived.Laws.EntriesVeiled
namespace Go.Proofs.YtlgkdnmhoboinaaGreatDoor
open Go.RowKit
set_option linter.unusedVariables false

/-- A field is made: its value, in a world in which nothing that was there has turned. -/
def Makes (F : FSpec) (w : World) (e : Ending) (w' : World) : Prop :=
  ∃ pv rv es, e = .returned (.agg #[pv, rv, .string es]) ∧ IsF w.heap.size w' F pv rv ∧ Below w.heap.size w w'

/-- Boxes that lie at the heap's end. -/
theorem box_cell (w : World) (x : Value) (t : TypeId) : (w.alloc (.cells #[x] t)).cell? ⟨w.heap.size, 0, none⟩ = some x := cell_of_one (heap_alloc_new w _)
theorem past_cell {w : World} {p : Addr} {v : Value} (h : w.cell? p = some v) (o : Obj) : (w.alloc o).cell? p = some v :=
  (((Below.refl w.heap.size w).alloc (Nat.le_refl _) o).cell (World.block_lt_of_cell? w _ h)).trans h

theorem number_raw (m : Int) (fn : Nat) (w : World) : Calls Tryz.prog 85 #[.int .i64 m, .func (.func fn) #[] #[]] w fun e w' => e = .returned (.agg #[.func (.func 122) #[] #[.pointer (some ⟨w.heap.size + 1, 0, none⟩)], .func (.func 124) #[] #[.pointer (some ⟨w.heap.size + 1, 0, none⟩), .pointer (some ⟨w.heap.size, 0, none⟩)], .string ⟨#[48]⟩]) ∧ ((w.alloc (.cells #[.int .i64 m] 3)).alloc (.cells #[.func (.func fn) #[] #[]] 107)).alloc (.cells #[.func (.func 122) #[] #[.pointer (some ⟨w.heap.size + 1, 0, none⟩)], .func (.func 124) #[] #[.pointer (some ⟨w.heap.size + 1, 0, none⟩), .pointer (some ⟨w.heap.size, 0, none⟩)], .string ⟨#[48]⟩] 79) = w' := by
  go_enter Tryz.func85, Tryz.ntmps85
  go_wp2
  exact bodyPost_ret (v := .agg #[.func (.func 122) #[] #[.pointer (some ⟨w.heap.size + 1, 0, none⟩)], .func (.func 124) #[] #[.pointer (some ⟨w.heap.size + 1, 0, none⟩), .pointer (some ⟨w.heap.size, 0, none⟩)], .string ⟨#[48]⟩]) (by simp [results, Tryz.results85, go_sem]) rfl ⟨rfl, rfl⟩
theorem plan_raw (fn : Nat) (w : World) : Calls Tryz.prog 103 #[.func (.func fn) #[] #[]] w fun e w' => e = .returned (.agg #[.func (.func 139) #[] #[.pointer (some ⟨w.heap.size, 0, none⟩)], .func (.func 140) #[] #[.pointer (some ⟨w.heap.size, 0, none⟩)], .string ⟨#[48]⟩]) ∧ (w.alloc (.cells #[.func (.func fn) #[] #[]] 113)).alloc (.cells #[.func (.func 139) #[] #[.pointer (some ⟨w.heap.size, 0, none⟩)], .func (.func 140) #[] #[.pointer (some ⟨w.heap.size, 0, none⟩)], .string ⟨#[48]⟩] 79) = w' := by
  go_enter Tryz.func103, Tryz.ntmps103
  go_wp2
  exact bodyPost_ret (v := .agg #[.func (.func 139) #[] #[.pointer (some ⟨w.heap.size, 0, none⟩)], .func (.func 140) #[] #[.pointer (some ⟨w.heap.size, 0, none⟩)], .string ⟨#[48]⟩]) (by simp [results, Tryz.results103, go_sem]) rfl ⟨rfl, rfl⟩
theorem named_raw (fn : Nat) (w : World) : Calls Tryz.prog 101 #[.func (.func fn) #[] #[]] w fun e w' => e = .returned (.agg #[.func (.func 135) #[] #[], .func (.func 136) #[] #[.pointer (some ⟨w.heap.size, 0, none⟩)], .string ⟨#[97]⟩]) ∧ (w.alloc (.cells #[.func (.func fn) #[] #[]] 38)).alloc (.cells #[.func (.func 135) #[] #[], .func (.func 136) #[] #[.pointer (some ⟨w.heap.size, 0, none⟩)], .string ⟨#[97]⟩] 79) = w' := by
  go_enter Tryz.func101, Tryz.ntmps101
  go_wp2
  exact bodyPost_ret (v := .agg #[.func (.func 135) #[] #[], .func (.func 136) #[] #[.pointer (some ⟨w.heap.size, 0, none⟩)], .string ⟨#[97]⟩]) (by simp [results, Tryz.results101, go_sem]) rfl ⟨rfl, rfl⟩
theorem escaped_raw (lo hi : Int) (w : World) : Calls Tryz.prog 60 #[.int .i64 lo, .int .i64 hi] w fun e w' => e = .returned (.agg #[.func (.func 95) #[] #[.pointer (some ⟨w.heap.size + 1, 0, none⟩)], .func (.func 97) #[] #[.pointer (some ⟨w.heap.size, 0, none⟩), .pointer (some ⟨w.heap.size + 1, 0, none⟩)], .string ⟨#[49, 51, 52, 32, 51, 52, 32, 52]⟩]) ∧ ((w.alloc (.cells #[.int .i64 lo] 3)).alloc (.cells #[.int .i64 hi] 3)).alloc (.cells #[.func (.func 95) #[] #[.pointer (some ⟨w.heap.size + 1, 0, none⟩)], .func (.func 97) #[] #[.pointer (some ⟨w.heap.size, 0, none⟩), .pointer (some ⟨w.heap.size + 1, 0, none⟩)], .string ⟨#[49, 51, 52, 32, 51, 52, 32, 52]⟩] 79) = w' := by
  go_enter Tryz.func60, Tryz.ntmps60
  go_wp2
  exact bodyPost_ret (v := .agg #[.func (.func 95) #[] #[.pointer (some ⟨w.heap.size + 1, 0, none⟩)], .func (.func 97) #[] #[.pointer (some ⟨w.heap.size, 0, none⟩), .pointer (some ⟨w.heap.size + 1, 0, none⟩)], .string ⟨#[49, 51, 52, 32, 51, 52, 32, 52]⟩]) (by simp [results, Tryz.results60, go_sem]) rfl ⟨rfl, rfl⟩

theorem id36_raw (fn : Nat) (w : World) : Calls Tryz.prog 93 #[.int .u8 36, .func (.func fn) #[] #[]] w fun e w' => e = .returned (.agg #[.func (.func 131) #[] #[.pointer (some ⟨w.heap.size, 0, none⟩), .pointer (some ⟨w.heap.size + 1, 0, none⟩)], .func (.func 133) #[] #[.pointer (some ⟨w.heap.size, 0, none⟩), .pointer (some ⟨w.heap.size + 1, 0, none⟩)], .string (⟨#[36]⟩ ++ ⟨#[49, 32, 49]⟩)]) ∧ ((w.alloc (.cells #[.int .u8 36] 5)).alloc (.cells #[.func (.func fn) #[] #[]] 107)).alloc (.cells #[.func (.func 131) #[] #[.pointer (some ⟨w.heap.size, 0, none⟩), .pointer (some ⟨w.heap.size + 1, 0, none⟩)], .func (.func 133) #[] #[.pointer (some ⟨w.heap.size, 0, none⟩), .pointer (some ⟨w.heap.size + 1, 0, none⟩)], .string (⟨#[36]⟩ ++ ⟨#[49, 32, 49]⟩)] 79) = w' := by
  have hu : Utf8.encode 36 = ⟨#[36]⟩ := by kernel_rfl
  go_enter Tryz.func93, Tryz.ntmps93
  go_wp2
  exact bodyPost_ret (v := .agg #[.func (.func 131) #[] #[.pointer (some ⟨w.heap.size, 0, none⟩), .pointer (some ⟨w.heap.size + 1, 0, none⟩)], .func (.func 133) #[] #[.pointer (some ⟨w.heap.size, 0, none⟩), .pointer (some ⟨w.heap.size + 1, 0, none⟩)], .string (⟨#[36]⟩ ++ ⟨#[49, 32, 49]⟩)]) (by simp [results, Tryz.results93, go_sem]) rfl ⟨rfl, rfl⟩
theorem id64_raw (fn : Nat) (w : World) : Calls Tryz.prog 93 #[.int .u8 64, .func (.func fn) #[] #[]] w fun e w' => e = .returned (.agg #[.func (.func 131) #[] #[.pointer (some ⟨w.heap.size, 0, none⟩), .pointer (some ⟨w.heap.size + 1, 0, none⟩)], .func (.func 133) #[] #[.pointer (some ⟨w.heap.size, 0, none⟩), .pointer (some ⟨w.heap.size + 1, 0, none⟩)], .string (⟨#[64]⟩ ++ ⟨#[49, 32, 49]⟩)]) ∧ ((w.alloc (.cells #[.int .u8 64] 5)).alloc (.cells #[.func (.func fn) #[] #[]] 107)).alloc (.cells #[.func (.func 131) #[] #[.pointer (some ⟨w.heap.size, 0, none⟩), .pointer (some ⟨w.heap.size + 1, 0, none⟩)], .func (.func 133) #[] #[.pointer (some ⟨w.heap.size, 0, none⟩), .pointer (some ⟨w.heap.size + 1, 0, none⟩)], .string (⟨#[64]⟩ ++ ⟨#[49, 32, 49]⟩)] 79) = w' := by
  have hu : Utf8.encode 64 = ⟨#[64]⟩ := by kernel_rfl
  go_enter Tryz.func93, Tryz.ntmps93
  go_wp2
  exact bodyPost_ret (v := .agg #[.func (.func 131) #[] #[.pointer (some ⟨w.heap.size, 0, none⟩), .pointer (some ⟨w.heap.size + 1, 0, none⟩)], .func (.func 133) #[] #[.pointer (some ⟨w.heap.size, 0, none⟩), .pointer (some ⟨w.heap.size + 1, 0, none⟩)], .string (⟨#[64]⟩ ++ ⟨#[49, 32, 49]⟩)]) (by simp [results, Tryz.results93, go_sem]) rfl ⟨rfl, rfl⟩
theorem id37_raw (fn : Nat) (w : World) : Calls Tryz.prog 93 #[.int .u8 37, .func (.func fn) #[] #[]] w fun e w' => e = .returned (.agg #[.func (.func 131) #[] #[.pointer (some ⟨w.heap.size, 0, none⟩), .pointer (some ⟨w.heap.size + 1, 0, none⟩)], .func (.func 133) #[] #[.pointer (some ⟨w.heap.size, 0, none⟩), .pointer (some ⟨w.heap.size + 1, 0, none⟩)], .string (⟨#[37]⟩ ++ ⟨#[49, 32, 49]⟩)]) ∧ ((w.alloc (.cells #[.int .u8 37] 5)).alloc (.cells #[.func (.func fn) #[] #[]] 107)).alloc (.cells #[.func (.func 131) #[] #[.pointer (some ⟨w.heap.size, 0, none⟩), .pointer (some ⟨w.heap.size + 1, 0, none⟩)], .func (.func 133) #[] #[.pointer (some ⟨w.heap.size, 0, none⟩), .pointer (some ⟨w.heap.size + 1, 0, none⟩)], .string (⟨#[37]⟩ ++ ⟨#[49, 32, 49]⟩)] 79) = w' := by
  have hu : Utf8.encode 37 = ⟨#[37]⟩ := by kernel_rfl
  go_enter Tryz.func93, Tryz.ntmps93
  go_wp2
  exact bodyPost_ret (v := .agg #[.func (.func 131) #[] #[.pointer (some ⟨w.heap.size, 0, none⟩), .pointer (some ⟨w.heap.size + 1, 0, none⟩)], .func (.func 133) #[] #[.pointer (some ⟨w.heap.size, 0, none⟩), .pointer (some ⟨w.heap.size + 1, 0, none⟩)], .string (⟨#[37]⟩ ++ ⟨#[49, 32, 49]⟩)]) (by simp [results, Tryz.results93, go_sem]) rfl ⟨rfl, rfl⟩
theorem enters_number1 : Enters 122 := enters_of Tryz.func122 (by kernel_rfl) rfl
theorem enters_number2 : Enters 124 := enters_of Tryz.func124 (by kernel_rfl) rfl
theorem enters_id1 : Enters 131 := enters_of Tryz.func131 (by kernel_rfl) rfl
theorem enters_id2 : Enters 133 := enters_of Tryz.func133 (by kernel_rfl) rfl
theorem enters_named1 : Enters 135 := enters_of Tryz.func135 (by kernel_rfl) rfl
theorem enters_named2 : Enters 136 := enters_of Tryz.func136 (by kernel_rfl) rfl
theorem enters_plan1 : Enters 139 := enters_of Tryz.func139 (by kernel_rfl) rfl
theorem enters_plan2 : Enters 140 := enters_of Tryz.func140 (by kernel_rfl) rfl
theorem enters_zoom1 : Enters 106 := enters_of Tryz.func106 (by kernel_rfl) rfl
theorem enters_zoom2 : Enters 107 := enters_of Tryz.func107 (by kernel_rfl) rfl
theorem enters_colon1 : Enters 111 := enters_of Tryz.func111 (by kernel_rfl) rfl
theorem enters_colon2 : Enters 112 := enters_of Tryz.func112 (by kernel_rfl) rfl
theorem enters_escaped1 : Enters 95 := enters_of Tryz.func95 (by kernel_rfl) rfl
theorem enters_escaped2 : Enters 97 := enters_of Tryz.func97 (by kernel_rfl) rfl
theorem enters_body1 : Enters 89 := enters_of Tryz.func89 (by kernel_rfl) rfl
theorem enters_body2 : Enters 91 := enters_of Tryz.func91 (by kernel_rfl) rfl
theorem enters_reason1 : Enters 113 := enters_of Tryz.func113 (by kernel_rfl) rfl
theorem enters_reason2 : Enters 114 := enters_of Tryz.func114 (by kernel_rfl) rfl

theorem below_new {B : Nat} {a w : World} (h : Below B a w) (hB : B ≤ a.heap.size) (o : Obj) : Below B a (w.alloc o) := h.alloc (Nat.le_trans hB h.size) o
/-- Four new blocks; three; two. -/
theorem below4 (w : World) (a b c d : Obj) : Below w.heap.size w ((((w.alloc a).alloc b).alloc c).alloc d) :=
  below_new (below_new (below_new (below_new (Below.refl _ _) (Nat.le_refl _) a) (Nat.le_refl _) b) (Nat.le_refl _) c) (Nat.le_refl _) d
theorem below3 (w : World) (a b c : Obj) : Below w.heap.size w (((w.alloc a).alloc b).alloc c) :=
  below_new (below_new (below_new (Below.refl _ _) (Nat.le_refl _) a) (Nat.le_refl _) b) (Nat.le_refl _) c
theorem below1 (w : World) (a : Obj) : Below w.heap.size w (w.alloc a) := below_new (Below.refl _ _) (Nat.le_refl _) a
theorem size1 (w : World) (a : Obj) : (w.alloc a).heap.size = w.heap.size + 1 := by simp

theorem made_num {m : Int} {f : NF} {fn : Nat} (hof : OfOk fn f.off) {w : World} (R C : Obj) :
    IsF w.heap.size ((((w.alloc R).alloc (.cells #[.int .i64 m] 3)).alloc (.cells #[.func (.func fn) #[] #[]] 107)).alloc C) (fNum m f) (.func (.func 122) #[] #[.pointer (some ⟨w.heap.size + 1 + 1, 0, none⟩)]) (.func (.func 124) #[] #[.pointer (some ⟨w.heap.size + 1 + 1, 0, none⟩), .pointer (some ⟨w.heap.size + 1, 0, none⟩)]) := by
  have c1 : ((((w.alloc R).alloc (.cells #[.int .i64 m] 3)).alloc (.cells #[.func (.func fn) #[] #[]] 107)).alloc C).cell? ⟨w.heap.size + 1, 0, none⟩ = some (.int .i64 m) := past_cell (past_cell (size1 w R ▸ box_cell _ _ _) _) _
  have c2 : ((((w.alloc R).alloc (.cells #[.int .i64 m] 3)).alloc (.cells #[.func (.func fn) #[] #[]] 107)).alloc C).cell? ⟨w.heap.size + 1 + 1, 0, none⟩ = some (.func (.func fn) #[] #[]) := by
    refine past_cell ?_ _
    have := box_cell ((w.alloc R).alloc (.cells #[.int .i64 m] 3)) (.func (.func fn) #[] #[]) 107
    rw [size1, size1] at this
    exact this
  exact ⟨_, _, _, _, rfl, rfl, enters_number1, enters_number2, num_put m f fn hof _ _ _ (by omega) c2, num_read m f fn hof _ _ _ _ (by omega) c2 (by omega) c1⟩

theorem made_id {c : UInt8} {f : NF} {fn : Nat} (hof : OfOk fn f.off) {w : World} (R C : Obj) (v : Value) (hv : v = .int .u8 c.toNat) :
    IsF w.heap.size ((((w.alloc R).alloc (.cells #[v] 5)).alloc (.cells #[.func (.func fn) #[] #[]] 107)).alloc C) (fId c f) (.func (.func 131) #[] #[.pointer (some ⟨w.heap.size + 1, 0, none⟩), .pointer (some ⟨w.heap.size + 1 + 1, 0, none⟩)]) (.func (.func 133) #[] #[.pointer (some ⟨w.heap.size + 1, 0, none⟩), .pointer (some ⟨w.heap.size + 1 + 1, 0, none⟩)]) := by
  subst hv
  have c1 : ((((w.alloc R).alloc (.cells #[.int .u8 c.toNat] 5)).alloc (.cells #[.func (.func fn) #[] #[]] 107)).alloc C).cell? ⟨w.heap.size + 1, 0, none⟩ = some (.int .u8 c.toNat) := past_cell (past_cell (size1 w R ▸ box_cell _ _ _) _) _
  have c2 : ((((w.alloc R).alloc (.cells #[.int .u8 c.toNat] 5)).alloc (.cells #[.func (.func fn) #[] #[]] 107)).alloc C).cell? ⟨w.heap.size + 1 + 1, 0, none⟩ = some (.func (.func fn) #[] #[]) := by
    refine past_cell ?_ _
    have := box_cell ((w.alloc R).alloc (.cells #[.int .u8 c.toNat] 5)) (.func (.func fn) #[] #[]) 107
    rw [size1, size1] at this
    exact this
  exact ⟨_, _, _, _, rfl, rfl, enters_id1, enters_id2, id_put c f fn hof _ _ _ _ (by omega) c2 (by omega) c1, id_read c f fn hof _ _ _ _ (by omega) c2 (by omega) c1⟩

theorem made_named {p : List UInt8 → Bool} {fn : Nat} (hof : TestOk fn p) {w : World} (R C : Obj) :
    IsF w.heap.size (((w.alloc R).alloc (.cells #[.func (.func fn) #[] #[]] 38)).alloc C) (fNamed p) (.func (.func 135) #[] #[]) (.func (.func 136) #[] #[.pointer (some ⟨w.heap.size + 1, 0, none⟩)]) := by
  have c1 : (((w.alloc R).alloc (.cells #[.func (.func fn) #[] #[]] 38)).alloc C).cell? ⟨w.heap.size + 1, 0, none⟩ = some (.func (.func fn) #[] #[]) := past_cell (size1 w R ▸ box_cell _ _ _) _
  exact ⟨_, _, _, _, rfl, rfl, enters_named1, enters_named2, named_put p _ _, named_read p fn hof _ _ _ (by omega) c1⟩

theorem made_plan {f : PF} {fn : Nat} (hof : OfOk fn f.off) {w : World} (R C : Obj) :
    IsF w.heap.size (((w.alloc R).alloc (.cells #[.func (.func fn) #[] #[]] 113)).alloc C) (fPlan f) (.func (.func 139) #[] #[.pointer (some ⟨w.heap.size + 1, 0, none⟩)]) (.func (.func 140) #[] #[.pointer (some ⟨w.heap.size + 1, 0, none⟩)]) := by
  have c1 : (((w.alloc R).alloc (.cells #[.func (.func fn) #[] #[]] 113)).alloc C).cell? ⟨w.heap.size + 1, 0, none⟩ = some (.func (.func fn) #[] #[]) := past_cell (size1 w R ▸ box_cell _ _ _) _
  exact ⟨_, _, _, _, rfl, rfl, enters_plan1, enters_plan2, plan_put f fn hof _ _ _ (by omega) c1, plan_read f fn hof _ _ _ (by omega) c1⟩

theorem made_esc (lo hi : Nat) (hlo : lo ≤ lim) (hhi : hi ≤ lim) {w : World} (C : Obj) :
    IsF w.heap.size (((w.alloc (.cells #[.int .i64 lo] 3)).alloc (.cells #[.int .i64 hi] 3)).alloc C) (fEsc lo hi) (.func (.func 95) #[] #[.pointer (some ⟨w.heap.size + 1, 0, none⟩)]) (.func (.func 97) #[] #[.pointer (some ⟨w.heap.size, 0, none⟩), .pointer (some ⟨w.heap.size + 1, 0, none⟩)]) := by
  have c1 : (((w.alloc (.cells #[.int .i64 lo] 3)).alloc (.cells #[.int .i64 hi] 3)).alloc C).cell? ⟨w.heap.size, 0, none⟩ = some (.int .i64 lo) := past_cell (past_cell (box_cell _ _ _) _) _
  have c2 : (((w.alloc (.cells #[.int .i64 lo] 3)).alloc (.cells #[.int .i64 hi] 3)).alloc C).cell? ⟨w.heap.size + 1, 0, none⟩ = some (.int .i64 hi) := past_cell (size1 w (.cells #[.int .i64 lo] 3) ▸ box_cell _ _ _) _
  exact ⟨_, _, _, _, rfl, rfl, enters_escaped1, enters_escaped2, esc_put lo hi hhi _ _ _ (by omega) c2, esc_read lo hi hhi hlo _ _ _ _ (Nat.le_refl _) c1 (by omega) c2⟩

theorem tick_makes (w : World) (hE : Env w) : Calls Tryz.prog 55 #[] w (Makes (fNum maxN .tick) w) := by
  go_enter Tryz.func55, Tryz.ntmps55
  go_wp2_with (go_at_call 85; refine (number_raw _ _ _).mono ?_; rintro e w1 ⟨rfl, rfl⟩)
  exact bodyPost_ret (v := .agg #[.func (.func 122) #[] #[.pointer (some ⟨w.heap.size + 1 + 1, 0, none⟩)], .func (.func 124) #[] #[.pointer (some ⟨w.heap.size + 1 + 1, 0, none⟩), .pointer (some ⟨w.heap.size + 1, 0, none⟩)], .string ⟨#[48]⟩]) (by simp [results, Tryz.results55, go_sem]) rfl ⟨_, _, _, rfl, made_num of_tick _ _, below4 _ _ _ _ _⟩

theorem lineNumber_makes (w : World) (hE : Env w) : Calls Tryz.prog 56 #[] w (Makes (fNum maxN .number) w) := by
  go_enter Tryz.func56, Tryz.ntmps56
  go_wp2_with (go_at_call 85; refine (number_raw _ _ _).mono ?_; rintro e w1 ⟨rfl, rfl⟩)
  exact bodyPost_ret (v := .agg #[.func (.func 122) #[] #[.pointer (some ⟨w.heap.size + 1 + 1, 0, none⟩)], .func (.func 124) #[] #[.pointer (some ⟨w.heap.size + 1 + 1, 0, none⟩), .pointer (some ⟨w.heap.size + 1, 0, none⟩)], .string ⟨#[48]⟩]) (by simp [results, Tryz.results56, go_sem]) rfl ⟨_, _, _, rfl, made_num of_lineNumber _ _, below4 _ _ _ _ _⟩

theorem offset_makes (w : World) (hE : Env w) : Calls Tryz.prog 61 #[] w (Makes (fNum maxN .offset) w) := by
  go_enter Tryz.func61, Tryz.ntmps61
  go_wp2_with (go_at_call 85; refine (number_raw _ _ _).mono ?_; rintro e w1 ⟨rfl, rfl⟩)
  exact bodyPost_ret (v := .agg #[.func (.func 122) #[] #[.pointer (some ⟨w.heap.size + 1 + 1, 0, none⟩)], .func (.func 124) #[] #[.pointer (some ⟨w.heap.size + 1 + 1, 0, none⟩), .pointer (some ⟨w.heap.size + 1, 0, none⟩)], .string ⟨#[48]⟩]) (by simp [results, Tryz.results61, go_sem]) rfl ⟨_, _, _, rfl, made_num of_offset _ _, below4 _ _ _ _ _⟩

theorem flag_makes (w : World) (hE : Env w) : Calls Tryz.prog 57 #[] w (Makes (fNum 1 .flag) w) := by
  go_enter Tryz.func57, Tryz.ntmps57
  go_wp2_with (go_at_call 85; refine (number_raw _ _ _).mono ?_; rintro e w1 ⟨rfl, rfl⟩)
  exact bodyPost_ret (v := .agg #[.func (.func 122) #[] #[.pointer (some ⟨w.heap.size + 1 + 1, 0, none⟩)], .func (.func 124) #[] #[.pointer (some ⟨w.heap.size + 1 + 1, 0, none⟩), .pointer (some ⟨w.heap.size + 1, 0, none⟩)], .string ⟨#[48]⟩]) (by simp [results, Tryz.results57, go_sem]) rfl ⟨_, _, _, rfl, made_num of_flag _ _, below4 _ _ _ _ _⟩

theorem index_makes (w : World) (hE : Env w) : Calls Tryz.prog 68 #[] w (Makes (fNum 9999 .index) w) := by
  go_enter Tryz.func68, Tryz.ntmps68
  go_wp2_with (go_at_call 85; refine (number_raw _ _ _).mono ?_; rintro e w1 ⟨rfl, rfl⟩)
  exact bodyPost_ret (v := .agg #[.func (.func 122) #[] #[.pointer (some ⟨w.heap.size + 1 + 1, 0, none⟩)], .func (.func 124) #[] #[.pointer (some ⟨w.heap.size + 1 + 1, 0, none⟩), .pointer (some ⟨w.heap.size + 1, 0, none⟩)], .string ⟨#[48]⟩]) (by simp [results, Tryz.results68, go_sem]) rfl ⟨_, _, _, rfl, made_num of_index _ _, below4 _ _ _ _ _⟩

theorem session_makes (w : World) (hE : Env w) : Calls Tryz.prog 67 #[] w (Makes (fId 36 .session) w) := by
  go_enter Tryz.func67, Tryz.ntmps67
  go_wp2_with (go_at_call 93; refine (id36_raw _ _).mono ?_; rintro e w1 ⟨rfl, rfl⟩)
  exact bodyPost_ret (v := .agg #[.func (.func 131) #[] #[.pointer (some ⟨w.heap.size + 1, 0, none⟩), .pointer (some ⟨w.heap.size + 1 + 1, 0, none⟩)], .func (.func 133) #[] #[.pointer (some ⟨w.heap.size + 1, 0, none⟩), .pointer (some ⟨w.heap.size + 1 + 1, 0, none⟩)], .string (⟨#[36]⟩ ++ ⟨#[49, 32, 49]⟩)]) (by simp [results, Tryz.results67, go_sem]) rfl ⟨_, _, _, rfl, made_id of_session _ _ _ rfl, below4 _ _ _ _ _⟩

theorem window_makes (w : World) (hE : Env w) : Calls Tryz.prog 62 #[] w (Makes (fId 64 .window) w) := by
  go_enter Tryz.func62, Tryz.ntmps62
  go_wp2_with (go_at_call 93; refine (id64_raw _ _).mono ?_; rintro e w1 ⟨rfl, rfl⟩)
  exact bodyPost_ret (v := .agg #[.func (.func 131) #[] #[.pointer (some ⟨w.heap.size + 1, 0, none⟩), .pointer (some ⟨w.heap.size + 1 + 1, 0, none⟩)], .func (.func 133) #[] #[.pointer (some ⟨w.heap.size + 1, 0, none⟩), .pointer (some ⟨w.heap.size + 1 + 1, 0, none⟩)], .string (⟨#[64]⟩ ++ ⟨#[49, 32, 49]⟩)]) (by simp [results, Tryz.results62, go_sem]) rfl ⟨_, _, _, rfl, made_id of_window _ _ _ rfl, below4 _ _ _ _ _⟩

theorem pane_makes (w : World) (hE : Env w) : Calls Tryz.prog 59 #[] w (Makes (fId 37 .pane) w) := by
  go_enter Tryz.func59, Tryz.ntmps59
  go_wp2_with (go_at_call 93; refine (id37_raw _ _).mono ?_; rintro e w1 ⟨rfl, rfl⟩)
  exact bodyPost_ret (v := .agg #[.func (.func 131) #[] #[.pointer (some ⟨w.heap.size + 1, 0, none⟩), .pointer (some ⟨w.heap.size + 1 + 1, 0, none⟩)], .func (.func 133) #[] #[.pointer (some ⟨w.heap.size + 1, 0, none⟩), .pointer (some ⟨w.heap.size + 1 + 1, 0, none⟩)], .string (⟨#[37]⟩ ++ ⟨#[49, 32, 49]⟩)]) (by simp [results, Tryz.results59, go_sem]) rfl ⟨_, _, _, rfl, made_id of_pane _ _ _ rfl, below4 _ _ _ _ _⟩

theorem name_makes (w : World) (hE : Env w) : Calls Tryz.prog 63 #[] w (Makes (fName) w) := by
  go_enter Tryz.func63, Tryz.ntmps63
  go_wp2_with (go_at_call 101; refine (named_raw _ _).mono ?_; rintro e w1 ⟨rfl, rfl⟩)
  exact bodyPost_ret (v := .agg #[.func (.func 135) #[] #[], .func (.func 136) #[] #[.pointer (some ⟨w.heap.size + 1, 0, none⟩)], .string ⟨#[97]⟩]) (by simp [results, Tryz.results63, go_sem]) rfl ⟨_, _, _, rfl, made_named test_name _ _, below3 _ _ _ _⟩

theorem word_makes (w : World) (hE : Env w) : Calls Tryz.prog 69 #[] w (Makes (fWord) w) := by
  go_enter Tryz.func69, Tryz.ntmps69
  go_wp2_with (go_at_call 101; refine (named_raw _ _).mono ?_; rintro e w1 ⟨rfl, rfl⟩)
  exact bodyPost_ret (v := .agg #[.func (.func 135) #[] #[], .func (.func 136) #[] #[.pointer (some ⟨w.heap.size + 1, 0, none⟩)], .string ⟨#[97]⟩]) (by simp [results, Tryz.results69, go_sem]) rfl ⟨_, _, _, rfl, made_named test_word _ _, below3 _ _ _ _⟩

theorem layout_makes (w : World) (hE : Env w) : Calls Tryz.prog 64 #[] w (Makes (fPlan .layout) w) := by
  go_enter Tryz.func64, Tryz.ntmps64
  go_wp2_with (go_at_call 103; refine (plan_raw _ _).mono ?_; rintro e w1 ⟨rfl, rfl⟩)
  exact bodyPost_ret (v := .agg #[.func (.func 139) #[] #[.pointer (some ⟨w.heap.size + 1, 0, none⟩)], .func (.func 140) #[] #[.pointer (some ⟨w.heap.size + 1, 0, none⟩)], .string ⟨#[48]⟩]) (by simp [results, Tryz.results64, go_sem]) rfl ⟨_, _, _, rfl, made_plan of_layout _ _, below3 _ _ _ _⟩

theorem visible_makes (w : World) (hE : Env w) : Calls Tryz.prog 65 #[] w (Makes (fPlan .visible) w) := by
  go_enter Tryz.func65, Tryz.ntmps65
  go_wp2_with (go_at_call 103; refine (plan_raw _ _).mono ?_; rintro e w1 ⟨rfl, rfl⟩)
  exact bodyPost_ret (v := .agg #[.func (.func 139) #[] #[.pointer (some ⟨w.heap.size + 1, 0, none⟩)], .func (.func 140) #[] #[.pointer (some ⟨w.heap.size + 1, 0, none⟩)], .string ⟨#[48]⟩]) (by simp [results, Tryz.results65, go_sem]) rfl ⟨_, _, _, rfl, made_plan of_visible _ _, below3 _ _ _ _⟩

theorem zoom_makes (w : World) (hE : Env w) : Calls Tryz.prog 66 #[] w (Makes (fZoom) w) := by
  go_enter Tryz.func66, Tryz.ntmps66
  go_wp2
  exact bodyPost_ret (v := .agg #[.func (.func 106) #[] #[], .func (.func 107) #[] #[], .string ⟨#[45]⟩]) (by simp [results, Tryz.results66, go_sem]) rfl ⟨_, _, _, rfl, ⟨_, _, _, _, rfl, rfl, enters_zoom1, enters_zoom2, zoom_put _ _, zoom_read _ _⟩, below1 _ _⟩

theorem colon_makes (w : World) (hE : Env w) : Calls Tryz.prog 70 #[] w (Makes (fColon) w) := by
  go_enter Tryz.func70, Tryz.ntmps70
  go_wp2
  exact bodyPost_ret (v := .agg #[.func (.func 111) #[] #[], .func (.func 112) #[] #[], .string ⟨#[58]⟩]) (by simp [results, Tryz.results70, go_sem]) rfl ⟨_, _, _, rfl, ⟨_, _, _, _, rfl, rfl, enters_colon1, enters_colon2, colon_put _ _, colon_read _ _⟩, below1 _ _⟩

theorem body_makes (w : World) (hE : Env w) : Calls Tryz.prog 58 #[] w (Makes (fBody) w) := by
  go_enter Tryz.func58, Tryz.ntmps58
  go_wp2
  exact bodyPost_ret (v := .agg #[.func (.func 89) #[] #[], .func (.func 91) #[] #[], .string ⟨#[49, 51, 52, 32, 51, 52, 32, 52, 32, 53]⟩]) (by simp [results, Tryz.results58, go_sem]) rfl ⟨_, _, _, rfl, ⟨_, _, _, _, rfl, rfl, enters_body1, enters_body2, body_put _ _, body_read _ _⟩, below1 _ _⟩

theorem escaped_makes (lo hi : Nat) (hlo : lo ≤ lim) (hhi : hi ≤ lim) (w : World) (hE : Env w) : Calls Tryz.prog 60 #[.int .i64 lo, .int .i64 hi] w (Makes (fEsc lo hi) w) :=
  (escaped_raw _ _ w).mono fun _ _ ⟨h1, h2⟩ => h2 ▸ ⟨_, _, _, h1, made_esc lo hi hlo hhi _, below3 _ _ _ _⟩

theorem cell_at {w : World} {b : Nat} {cs : Array Value} {t : TypeId} (h : w.heap[b]? = some (.cells cs t (0, 0))) (o : Nat) : w.cell? ⟨b, o, none⟩ = cs[o]? := by simp [World.cell?, h]
theorem made_reason {w : World} (R C : Obj) (es : Value) :
    IsF w.heap.size (((((w.alloc R).alloc (.cells #[.int .i64 1] 3)).alloc (.cells #[.int .i64 1024] 3)).alloc C).alloc (.cells #[.func (.func 95) #[] #[.pointer (some ⟨w.heap.size + 1 + 1, 0, none⟩)], .func (.func 97) #[] #[.pointer (some ⟨w.heap.size + 1, 0, none⟩), .pointer (some ⟨w.heap.size + 1 + 1, 0, none⟩)], es] 79)) fReason
      (.func (.func 113) #[] #[.pointer (some ⟨w.heap.size + 1 + 1 + 1 + 1, 0, none⟩)]) (.func (.func 114) #[] #[.pointer (some ⟨w.heap.size + 1 + 1 + 1 + 1, 0, none⟩)]) := by
  have h := made_esc 1 1024 (by decide) (by decide) (w := w.alloc R) C
  rw [size1] at h
  obtain ⟨W, hW⟩ : ∃ W, (((w.alloc R).alloc (.cells #[.int .i64 1] 3)).alloc (.cells #[.int .i64 1024] 3)).alloc C = W := ⟨_, rfl⟩
  have hs : W.heap.size = w.heap.size + 1 + 1 + 1 + 1 := by rw [← hW, size1, size1, size1, size1]
  have h' : IsF (w.heap.size + 1) W (fEsc 1 1024) (.func (.func 95) #[] #[.pointer (some ⟨w.heap.size + 1 + 1, 0, none⟩)]) (.func (.func 97) #[] #[.pointer (some ⟨w.heap.size + 1, 0, none⟩), .pointer (some ⟨w.heap.size + 1 + 1, 0, none⟩)]) := hW ▸ h
  rw [hW, ← hs]
  obtain ⟨S, hS⟩ : ∃ S, Obj.cells #[.func (.func 95) #[] #[.pointer (some ⟨w.heap.size + 1 + 1, 0, none⟩)], .func (.func 97) #[] #[.pointer (some ⟨w.heap.size + 1, 0, none⟩), .pointer (some ⟨w.heap.size + 1 + 1, 0, none⟩)], es] 79 (0, 0) = S := ⟨_, rfl⟩
  have hb : (W.alloc S).heap[W.heap.size]? = some S := heap_alloc_new W S
  have h2 := h'.since (B' := w.heap.size) (Since.of_below (below1 W S)) (by omega)
  obtain ⟨g, lb, g', lb', e1, e2, e3, e4, e5, e6⟩ := h2
  have c1 : (W.alloc S).cell? ⟨W.heap.size, 0, none⟩ = some (.func (.func g) #[] lb) := (cell_at (by rw [hb, ← hS]) 0).trans (by rw [← e1]; rfl)
  have c2 : (W.alloc S).cell? ⟨W.heap.size, 1, none⟩ = some (.func (.func g') #[] lb') := (cell_at (by rw [hb, ← hS]) 1).trans (by rw [← e2]; rfl)
  rw [hS]
  exact ⟨_, _, _, _, rfl, rfl, enters_reason1, enters_reason2, reason_put _ _ _ g lb (by omega) c1 e3 e5, reason_read _ _ _ g' lb' (by omega) c2 e4 e6⟩

theorem reason_makes (w : World) (hE : Env w) : Calls Tryz.prog 71 #[] w (Makes fReason w) := by
  go_enter Tryz.func71, Tryz.ntmps71
  go_wp2_with (go_at_call 60; refine (escaped_raw _ _ _).mono ?_; rintro e w1 ⟨rfl, rfl⟩)
  exact bodyPost_ret (v := .agg #[.func (.func 113) #[] #[.pointer (some ⟨w.heap.size + 1 + 1 + 1 + 1, 0, none⟩)], .func (.func 114) #[] #[.pointer (some ⟨w.heap.size + 1 + 1 + 1 + 1, 0, none⟩)], .string ⟨#[49, 51, 52, 32, 51, 52, 32, 52]⟩]) (by simp [results, Tryz.results71, go_sem]) rfl
    ⟨_, _, _, rfl, made_reason _ _ _, below_new (below4 _ _ _ _ _) (Nat.le_refl _) _⟩

end Go.Proofs.YtlgkdnmhoboinaaGreatDoor
