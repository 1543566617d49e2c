/-
  The functions that make fields: each answers a field as the plain functions say.
-/
import Derived.Test.YtplolaondmeccaaGreatDoorWFldD
import Derived.WalkKit
import Derived.Laws.EntriesVeiled
namespace Go.Proofs.YtplolaondmeccaaGreatDoor
open Go.RowKit
set_option linter.unusedVariables false

/-- A field is made: its value, in a world in which nothing that was there has turned. -/
def Makes (F : FSpec) (w : World) (e : Ending) (w' : World) : Prop :=
  ∃ pv rv es, e = .returned (.agg #[pv, rv, .string es]) ∧ IsFE w.heap.size w' F pv rv es ∧ Below w.heap.size w w'

/-- Boxes that lie at the heap's end. -/
theorem box_cell (w : World) (x : Value) (t : TypeId) : (w.alloc (.cells #[x] t)).cell? ⟨w.heap.size, 0, none⟩ = some x := cell_of_one (heap_alloc_new w _)
theorem past_cell {w : World} {p : Addr} {v : Value} (h : w.cell? p = some v) (o : Obj) : (w.alloc o).cell? p = some v :=
  (((Below.refl w.heap.size w).alloc (Nat.le_refl _) o).cell (World.block_lt_of_cell? w _ h)).trans h

theorem number_raw (m : Int) (fn : Nat) (w : World) : Calls Tryz.prog 76 #[.int .i64 m, .func (.func fn) #[] #[]] w fun e w' => e = .returned (.agg #[.func (.func 123) #[] #[.pointer (some ⟨w.heap.size + 1, 0, none⟩)], .func (.func 125) #[] #[.pointer (some ⟨w.heap.size + 1, 0, none⟩), .pointer (some ⟨w.heap.size, 0, none⟩)], .string ⟨#[48]⟩]) ∧ ((w.alloc (.cells #[.int .i64 m] 3)).alloc (.cells #[.func (.func fn) #[] #[]] 99)).alloc (.cells #[.func (.func 123) #[] #[.pointer (some ⟨w.heap.size + 1, 0, none⟩)], .func (.func 125) #[] #[.pointer (some ⟨w.heap.size + 1, 0, none⟩), .pointer (some ⟨w.heap.size, 0, none⟩)], .string ⟨#[48]⟩] 60) = w' := by
  go_enter Tryz.func76, Tryz.ntmps76
  go_wp2
  exact bodyPost_ret (v := .agg #[.func (.func 123) #[] #[.pointer (some ⟨w.heap.size + 1, 0, none⟩)], .func (.func 125) #[] #[.pointer (some ⟨w.heap.size + 1, 0, none⟩), .pointer (some ⟨w.heap.size, 0, none⟩)], .string ⟨#[48]⟩]) (by simp [results, Tryz.results76, go_sem]) rfl ⟨rfl, rfl⟩
theorem plan_raw (fn : Nat) (w : World) : Calls Tryz.prog 94 #[.func (.func fn) #[] #[]] w fun e w' => e = .returned (.agg #[.func (.func 140) #[] #[.pointer (some ⟨w.heap.size, 0, none⟩)], .func (.func 141) #[] #[.pointer (some ⟨w.heap.size, 0, none⟩)], .string ⟨#[48]⟩]) ∧ (w.alloc (.cells #[.func (.func fn) #[] #[]] 105)).alloc (.cells #[.func (.func 140) #[] #[.pointer (some ⟨w.heap.size, 0, none⟩)], .func (.func 141) #[] #[.pointer (some ⟨w.heap.size, 0, none⟩)], .string ⟨#[48]⟩] 60) = w' := by
  go_enter Tryz.func94, Tryz.ntmps94
  go_wp2
  exact bodyPost_ret (v := .agg #[.func (.func 140) #[] #[.pointer (some ⟨w.heap.size, 0, none⟩)], .func (.func 141) #[] #[.pointer (some ⟨w.heap.size, 0, none⟩)], .string ⟨#[48]⟩]) (by simp [results, Tryz.results94, go_sem]) rfl ⟨rfl, rfl⟩
theorem named_raw (fn : Nat) (w : World) : Calls Tryz.prog 92 #[.func (.func fn) #[] #[]] w fun e w' => e = .returned (.agg #[.func (.func 136) #[] #[], .func (.func 137) #[] #[.pointer (some ⟨w.heap.size, 0, none⟩)], .string ⟨#[97]⟩]) ∧ (w.alloc (.cells #[.func (.func fn) #[] #[]] 37)).alloc (.cells #[.func (.func 136) #[] #[], .func (.func 137) #[] #[.pointer (some ⟨w.heap.size, 0, none⟩)], .string ⟨#[97]⟩] 60) = w' := by
  go_enter Tryz.func92, Tryz.ntmps92
  go_wp2
  exact bodyPost_ret (v := .agg #[.func (.func 136) #[] #[], .func (.func 137) #[] #[.pointer (some ⟨w.heap.size, 0, none⟩)], .string ⟨#[97]⟩]) (by simp [results, Tryz.results92, go_sem]) rfl ⟨rfl, rfl⟩
theorem escaped_raw (lo hi : Int) (w : World) : Calls Tryz.prog 45 #[.int .i64 lo, .int .i64 hi] w fun e w' => e = .returned (.agg #[.func (.func 86) #[] #[.pointer (some ⟨w.heap.size + 1, 0, none⟩)], .func (.func 88) #[] #[.pointer (some ⟨w.heap.size, 0, none⟩), .pointer (some ⟨w.heap.size + 1, 0, none⟩)], .string ⟨#[49, 51, 52, 32, 51, 52, 32, 52]⟩]) ∧ ((w.alloc (.cells #[.int .i64 lo] 3)).alloc (.cells #[.int .i64 hi] 3)).alloc (.cells #[.func (.func 86) #[] #[.pointer (some ⟨w.heap.size + 1, 0, none⟩)], .func (.func 88) #[] #[.pointer (some ⟨w.heap.size, 0, none⟩), .pointer (some ⟨w.heap.size + 1, 0, none⟩)], .string ⟨#[49, 51, 52, 32, 51, 52, 32, 52]⟩] 60) = w' := by
  go_enter Tryz.func45, Tryz.ntmps45
  go_wp2
  exact bodyPost_ret (v := .agg #[.func (.func 86) #[] #[.pointer (some ⟨w.heap.size + 1, 0, none⟩)], .func (.func 88) #[] #[.pointer (some ⟨w.heap.size, 0, none⟩), .pointer (some ⟨w.heap.size + 1, 0, none⟩)], .string ⟨#[49, 51, 52, 32, 51, 52, 32, 52]⟩]) (by simp [results, Tryz.results45, go_sem]) rfl ⟨rfl, rfl⟩

theorem id36_raw (fn : Nat) (w : World) : Calls Tryz.prog 84 #[.int .u8 36, .func (.func fn) #[] #[]] w fun e w' => e = .returned (.agg #[.func (.func 132) #[] #[.pointer (some ⟨w.heap.size, 0, none⟩), .pointer (some ⟨w.heap.size + 1, 0, none⟩)], .func (.func 134) #[] #[.pointer (some ⟨w.heap.size, 0, none⟩), .pointer (some ⟨w.heap.size + 1, 0, none⟩)], .string (⟨#[36]⟩ ++ ⟨#[49, 32, 49]⟩)]) ∧ ((w.alloc (.cells #[.int .u8 36] 5)).alloc (.cells #[.func (.func fn) #[] #[]] 99)).alloc (.cells #[.func (.func 132) #[] #[.pointer (some ⟨w.heap.size, 0, none⟩), .pointer (some ⟨w.heap.size + 1, 0, none⟩)], .func (.func 134) #[] #[.pointer (some ⟨w.heap.size, 0, none⟩), .pointer (some ⟨w.heap.size + 1, 0, none⟩)], .string (⟨#[36]⟩ ++ ⟨#[49, 32, 49]⟩)] 60) = w' := by
  have hu : Utf8.encode 36 = ⟨#[36]⟩ := by kernel_rfl
  go_enter Tryz.func84, Tryz.ntmps84
  go_wp2
  exact bodyPost_ret (v := .agg #[.func (.func 132) #[] #[.pointer (some ⟨w.heap.size, 0, none⟩), .pointer (some ⟨w.heap.size + 1, 0, none⟩)], .func (.func 134) #[] #[.pointer (some ⟨w.heap.size, 0, none⟩), .pointer (some ⟨w.heap.size + 1, 0, none⟩)], .string (⟨#[36]⟩ ++ ⟨#[49, 32, 49]⟩)]) (by simp [results, Tryz.results84, go_sem]) rfl ⟨rfl, rfl⟩
theorem id64_raw (fn : Nat) (w : World) : Calls Tryz.prog 84 #[.int .u8 64, .func (.func fn) #[] #[]] w fun e w' => e = .returned (.agg #[.func (.func 132) #[] #[.pointer (some ⟨w.heap.size, 0, none⟩), .pointer (some ⟨w.heap.size + 1, 0, none⟩)], .func (.func 134) #[] #[.pointer (some ⟨w.heap.size, 0, none⟩), .pointer (some ⟨w.heap.size + 1, 0, none⟩)], .string (⟨#[64]⟩ ++ ⟨#[49, 32, 49]⟩)]) ∧ ((w.alloc (.cells #[.int .u8 64] 5)).alloc (.cells #[.func (.func fn) #[] #[]] 99)).alloc (.cells #[.func (.func 132) #[] #[.pointer (some ⟨w.heap.size, 0, none⟩), .pointer (some ⟨w.heap.size + 1, 0, none⟩)], .func (.func 134) #[] #[.pointer (some ⟨w.heap.size, 0, none⟩), .pointer (some ⟨w.heap.size + 1, 0, none⟩)], .string (⟨#[64]⟩ ++ ⟨#[49, 32, 49]⟩)] 60) = w' := by
  have hu : Utf8.encode 64 = ⟨#[64]⟩ := by kernel_rfl
  go_enter Tryz.func84, Tryz.ntmps84
  go_wp2
  exact bodyPost_ret (v := .agg #[.func (.func 132) #[] #[.pointer (some ⟨w.heap.size, 0, none⟩), .pointer (some ⟨w.heap.size + 1, 0, none⟩)], .func (.func 134) #[] #[.pointer (some ⟨w.heap.size, 0, none⟩), .pointer (some ⟨w.heap.size + 1, 0, none⟩)], .string (⟨#[64]⟩ ++ ⟨#[49, 32, 49]⟩)]) (by simp [results, Tryz.results84, go_sem]) rfl ⟨rfl, rfl⟩
theorem id37_raw (fn : Nat) (w : World) : Calls Tryz.prog 84 #[.int .u8 37, .func (.func fn) #[] #[]] w fun e w' => e = .returned (.agg #[.func (.func 132) #[] #[.pointer (some ⟨w.heap.size, 0, none⟩), .pointer (some ⟨w.heap.size + 1, 0, none⟩)], .func (.func 134) #[] #[.pointer (some ⟨w.heap.size, 0, none⟩), .pointer (some ⟨w.heap.size + 1, 0, none⟩)], .string (⟨#[37]⟩ ++ ⟨#[49, 32, 49]⟩)]) ∧ ((w.alloc (.cells #[.int .u8 37] 5)).alloc (.cells #[.func (.func fn) #[] #[]] 99)).alloc (.cells #[.func (.func 132) #[] #[.pointer (some ⟨w.heap.size, 0, none⟩), .pointer (some ⟨w.heap.size + 1, 0, none⟩)], .func (.func 134) #[] #[.pointer (some ⟨w.heap.size, 0, none⟩), .pointer (some ⟨w.heap.size + 1, 0, none⟩)], .string (⟨#[37]⟩ ++ ⟨#[49, 32, 49]⟩)] 60) = w' := by
  have hu : Utf8.encode 37 = ⟨#[37]⟩ := by kernel_rfl
  go_enter Tryz.func84, Tryz.ntmps84
  go_wp2
  exact bodyPost_ret (v := .agg #[.func (.func 132) #[] #[.pointer (some ⟨w.heap.size, 0, none⟩), .pointer (some ⟨w.heap.size + 1, 0, none⟩)], .func (.func 134) #[] #[.pointer (some ⟨w.heap.size, 0, none⟩), .pointer (some ⟨w.heap.size + 1, 0, none⟩)], .string (⟨#[37]⟩ ++ ⟨#[49, 32, 49]⟩)]) (by simp [results, Tryz.results84, go_sem]) rfl ⟨rfl, rfl⟩
theorem enters_number1 : Enters 123 := enters_of Tryz.func123 (by kernel_rfl) rfl
theorem enters_number2 : Enters 125 := enters_of Tryz.func125 (by kernel_rfl) rfl
theorem enters_id1 : Enters 132 := enters_of Tryz.func132 (by kernel_rfl) rfl
theorem enters_id2 : Enters 134 := enters_of Tryz.func134 (by kernel_rfl) rfl
theorem enters_named1 : Enters 136 := enters_of Tryz.func136 (by kernel_rfl) rfl
theorem enters_named2 : Enters 137 := enters_of Tryz.func137 (by kernel_rfl) rfl
theorem enters_plan1 : Enters 140 := enters_of Tryz.func140 (by kernel_rfl) rfl
theorem enters_plan2 : Enters 141 := enters_of Tryz.func141 (by kernel_rfl) rfl
theorem enters_zoom1 : Enters 97 := enters_of Tryz.func97 (by kernel_rfl) rfl
theorem enters_zoom2 : Enters 98 := enters_of Tryz.func98 (by kernel_rfl) rfl
theorem enters_colon1 : Enters 102 := enters_of Tryz.func102 (by kernel_rfl) rfl
theorem enters_colon2 : Enters 103 := enters_of Tryz.func103 (by kernel_rfl) rfl
theorem enters_escaped1 : Enters 86 := enters_of Tryz.func86 (by kernel_rfl) rfl
theorem enters_escaped2 : Enters 88 := enters_of Tryz.func88 (by kernel_rfl) rfl
theorem enters_body1 : Enters 80 := enters_of Tryz.func80 (by kernel_rfl) rfl
theorem enters_body2 : Enters 82 := enters_of Tryz.func82 (by kernel_rfl) rfl
theorem enters_reason1 : Enters 104 := enters_of Tryz.func104 (by kernel_rfl) rfl
theorem enters_reason2 : Enters 105 := enters_of Tryz.func105 (by kernel_rfl) rfl

theorem below_new {B : Nat} {a w : World} (h : Below B a w) (hB : B ≤ a.heap.size) (o : Obj) : Below B a (w.alloc o) := h.alloc (Nat.le_trans hB h.size) o
/-- Four new blocks; three; two. -/
theorem below4 (w : World) (a b c d : Obj) : Below w.heap.size w ((((w.alloc a).alloc b).alloc c).alloc d) :=
  below_new (below_new (below_new (below_new (Below.refl _ _) (Nat.le_refl _) a) (Nat.le_refl _) b) (Nat.le_refl _) c) (Nat.le_refl _) d
theorem below3 (w : World) (a b c : Obj) : Below w.heap.size w (((w.alloc a).alloc b).alloc c) :=
  below_new (below_new (below_new (Below.refl _ _) (Nat.le_refl _) a) (Nat.le_refl _) b) (Nat.le_refl _) c
theorem below1 (w : World) (a : Obj) : Below w.heap.size w (w.alloc a) := below_new (Below.refl _ _) (Nat.le_refl _) a
theorem size1 (w : World) (a : Obj) : (w.alloc a).heap.size = w.heap.size + 1 := by simp

theorem made_num {m : Int} {f : NF} {fn : Nat} (hof : OfOk fn f.off) {w : World} (R C : Obj) :
    IsF w.heap.size ((((w.alloc R).alloc (.cells #[.int .i64 m] 3)).alloc (.cells #[.func (.func fn) #[] #[]] 99)).alloc C) (fNum m f) (.func (.func 123) #[] #[.pointer (some ⟨w.heap.size + 1 + 1, 0, none⟩)]) (.func (.func 125) #[] #[.pointer (some ⟨w.heap.size + 1 + 1, 0, none⟩), .pointer (some ⟨w.heap.size + 1, 0, none⟩)]) := by
  have c1 : ((((w.alloc R).alloc (.cells #[.int .i64 m] 3)).alloc (.cells #[.func (.func fn) #[] #[]] 99)).alloc C).cell? ⟨w.heap.size + 1, 0, none⟩ = some (.int .i64 m) := past_cell (past_cell (size1 w R ▸ box_cell _ _ _) _) _
  have c2 : ((((w.alloc R).alloc (.cells #[.int .i64 m] 3)).alloc (.cells #[.func (.func fn) #[] #[]] 99)).alloc C).cell? ⟨w.heap.size + 1 + 1, 0, none⟩ = some (.func (.func fn) #[] #[]) := by
    refine past_cell ?_ _
    have := box_cell ((w.alloc R).alloc (.cells #[.int .i64 m] 3)) (.func (.func fn) #[] #[]) 99
    rw [size1, size1] at this
    exact this
  exact ⟨_, _, _, _, rfl, rfl, enters_number1, enters_number2, num_put m f fn hof _ _ _ (by omega) c2, num_read m f fn hof _ _ _ _ (by omega) c2 (by omega) c1⟩

theorem made_id {c : UInt8} {f : NF} {fn : Nat} (hof : OfOk fn f.off) {w : World} (R C : Obj) (v : Value) (hv : v = .int .u8 c.toNat) :
    IsF w.heap.size ((((w.alloc R).alloc (.cells #[v] 5)).alloc (.cells #[.func (.func fn) #[] #[]] 99)).alloc C) (fId c f) (.func (.func 132) #[] #[.pointer (some ⟨w.heap.size + 1, 0, none⟩), .pointer (some ⟨w.heap.size + 1 + 1, 0, none⟩)]) (.func (.func 134) #[] #[.pointer (some ⟨w.heap.size + 1, 0, none⟩), .pointer (some ⟨w.heap.size + 1 + 1, 0, none⟩)]) := by
  subst hv
  have c1 : ((((w.alloc R).alloc (.cells #[.int .u8 c.toNat] 5)).alloc (.cells #[.func (.func fn) #[] #[]] 99)).alloc C).cell? ⟨w.heap.size + 1, 0, none⟩ = some (.int .u8 c.toNat) := past_cell (past_cell (size1 w R ▸ box_cell _ _ _) _) _
  have c2 : ((((w.alloc R).alloc (.cells #[.int .u8 c.toNat] 5)).alloc (.cells #[.func (.func fn) #[] #[]] 99)).alloc C).cell? ⟨w.heap.size + 1 + 1, 0, none⟩ = some (.func (.func fn) #[] #[]) := by
    refine past_cell ?_ _
    have := box_cell ((w.alloc R).alloc (.cells #[.int .u8 c.toNat] 5)) (.func (.func fn) #[] #[]) 99
    rw [size1, size1] at this
    exact this
  exact ⟨_, _, _, _, rfl, rfl, enters_id1, enters_id2, id_put c f fn hof _ _ _ _ (by omega) c2 (by omega) c1, id_read c f fn hof _ _ _ _ (by omega) c2 (by omega) c1⟩

theorem made_named {p : List UInt8 → Bool} {fn : Nat} (hof : TestOk fn p) {w : World} (R C : Obj) :
    IsF w.heap.size (((w.alloc R).alloc (.cells #[.func (.func fn) #[] #[]] 37)).alloc C) (fNamed p) (.func (.func 136) #[] #[]) (.func (.func 137) #[] #[.pointer (some ⟨w.heap.size + 1, 0, none⟩)]) := by
  have c1 : (((w.alloc R).alloc (.cells #[.func (.func fn) #[] #[]] 37)).alloc C).cell? ⟨w.heap.size + 1, 0, none⟩ = some (.func (.func fn) #[] #[]) := past_cell (size1 w R ▸ box_cell _ _ _) _
  exact ⟨_, _, _, _, rfl, rfl, enters_named1, enters_named2, named_put p _ _, named_read p fn hof _ _ _ (by omega) c1⟩

theorem made_plan {f : PF} {fn : Nat} (hof : OfOk fn f.off) {w : World} (R C : Obj) :
    IsF w.heap.size (((w.alloc R).alloc (.cells #[.func (.func fn) #[] #[]] 105)).alloc C) (fPlan f) (.func (.func 140) #[] #[.pointer (some ⟨w.heap.size + 1, 0, none⟩)]) (.func (.func 141) #[] #[.pointer (some ⟨w.heap.size + 1, 0, none⟩)]) := by
  have c1 : (((w.alloc R).alloc (.cells #[.func (.func fn) #[] #[]] 105)).alloc C).cell? ⟨w.heap.size + 1, 0, none⟩ = some (.func (.func fn) #[] #[]) := past_cell (size1 w R ▸ box_cell _ _ _) _
  exact ⟨_, _, _, _, rfl, rfl, enters_plan1, enters_plan2, plan_put f fn hof _ _ _ (by omega) c1, plan_read f fn hof _ _ _ (by omega) c1⟩

theorem made_esc (lo hi : Nat) (hlo : lo ≤ lim) (hhi : hi ≤ lim) {w : World} (C : Obj) :
    IsF w.heap.size (((w.alloc (.cells #[.int .i64 lo] 3)).alloc (.cells #[.int .i64 hi] 3)).alloc C) (fEsc lo hi) (.func (.func 86) #[] #[.pointer (some ⟨w.heap.size + 1, 0, none⟩)]) (.func (.func 88) #[] #[.pointer (some ⟨w.heap.size, 0, none⟩), .pointer (some ⟨w.heap.size + 1, 0, none⟩)]) := by
  have c1 : (((w.alloc (.cells #[.int .i64 lo] 3)).alloc (.cells #[.int .i64 hi] 3)).alloc C).cell? ⟨w.heap.size, 0, none⟩ = some (.int .i64 lo) := past_cell (past_cell (box_cell _ _ _) _) _
  have c2 : (((w.alloc (.cells #[.int .i64 lo] 3)).alloc (.cells #[.int .i64 hi] 3)).alloc C).cell? ⟨w.heap.size + 1, 0, none⟩ = some (.int .i64 hi) := past_cell (size1 w (.cells #[.int .i64 lo] 3) ▸ box_cell _ _ _) _
  exact ⟨_, _, _, _, rfl, rfl, enters_escaped1, enters_escaped2, esc_put lo hi hhi _ _ _ (by omega) c2, esc_read lo hi hhi hlo _ _ _ _ (Nat.le_refl _) c1 (by omega) c2⟩

theorem tick_makes (w : World) (hE : Env w) : Calls Tryz.prog 40 #[] w (Makes (fNum maxN .tick) w) := by
  go_enter Tryz.func40, Tryz.ntmps40
  go_wp2_with (go_at_call 76; refine (number_raw _ _ _).mono ?_; rintro e w1 ⟨rfl, rfl⟩)
  exact bodyPost_ret (v := .agg #[.func (.func 123) #[] #[.pointer (some ⟨w.heap.size + 1 + 1, 0, none⟩)], .func (.func 125) #[] #[.pointer (some ⟨w.heap.size + 1 + 1, 0, none⟩), .pointer (some ⟨w.heap.size + 1, 0, none⟩)], .string ⟨#[48]⟩]) (by simp [results, Tryz.results40, go_sem]) rfl ⟨_, _, _, rfl, ⟨made_num of_tick _ _, rfl⟩, below4 _ _ _ _ _⟩

theorem lineNumber_makes (w : World) (hE : Env w) : Calls Tryz.prog 41 #[] w (Makes (fNum maxN .number) w) := by
  go_enter Tryz.func41, Tryz.ntmps41
  go_wp2_with (go_at_call 76; refine (number_raw _ _ _).mono ?_; rintro e w1 ⟨rfl, rfl⟩)
  exact bodyPost_ret (v := .agg #[.func (.func 123) #[] #[.pointer (some ⟨w.heap.size + 1 + 1, 0, none⟩)], .func (.func 125) #[] #[.pointer (some ⟨w.heap.size + 1 + 1, 0, none⟩), .pointer (some ⟨w.heap.size + 1, 0, none⟩)], .string ⟨#[48]⟩]) (by simp [results, Tryz.results41, go_sem]) rfl ⟨_, _, _, rfl, ⟨made_num of_lineNumber _ _, rfl⟩, below4 _ _ _ _ _⟩

theorem offset_makes (w : World) (hE : Env w) : Calls Tryz.prog 46 #[] w (Makes (fNum maxN .offset) w) := by
  go_enter Tryz.func46, Tryz.ntmps46
  go_wp2_with (go_at_call 76; refine (number_raw _ _ _).mono ?_; rintro e w1 ⟨rfl, rfl⟩)
  exact bodyPost_ret (v := .agg #[.func (.func 123) #[] #[.pointer (some ⟨w.heap.size + 1 + 1, 0, none⟩)], .func (.func 125) #[] #[.pointer (some ⟨w.heap.size + 1 + 1, 0, none⟩), .pointer (some ⟨w.heap.size + 1, 0, none⟩)], .string ⟨#[48]⟩]) (by simp [results, Tryz.results46, go_sem]) rfl ⟨_, _, _, rfl, ⟨made_num of_offset _ _, rfl⟩, below4 _ _ _ _ _⟩

theorem flag_makes (w : World) (hE : Env w) : Calls Tryz.prog 42 #[] w (Makes (fNum 1 .flag) w) := by
  go_enter Tryz.func42, Tryz.ntmps42
  go_wp2_with (go_at_call 76; refine (number_raw _ _ _).mono ?_; rintro e w1 ⟨rfl, rfl⟩)
  exact bodyPost_ret (v := .agg #[.func (.func 123) #[] #[.pointer (some ⟨w.heap.size + 1 + 1, 0, none⟩)], .func (.func 125) #[] #[.pointer (some ⟨w.heap.size + 1 + 1, 0, none⟩), .pointer (some ⟨w.heap.size + 1, 0, none⟩)], .string ⟨#[48]⟩]) (by simp [results, Tryz.results42, go_sem]) rfl ⟨_, _, _, rfl, ⟨made_num of_flag _ _, rfl⟩, below4 _ _ _ _ _⟩

theorem index_makes (w : World) (hE : Env w) : Calls Tryz.prog 53 #[] w (Makes (fNum 9999 .index) w) := by
  go_enter Tryz.func53, Tryz.ntmps53
  go_wp2_with (go_at_call 76; refine (number_raw _ _ _).mono ?_; rintro e w1 ⟨rfl, rfl⟩)
  exact bodyPost_ret (v := .agg #[.func (.func 123) #[] #[.pointer (some ⟨w.heap.size + 1 + 1, 0, none⟩)], .func (.func 125) #[] #[.pointer (some ⟨w.heap.size + 1 + 1, 0, none⟩), .pointer (some ⟨w.heap.size + 1, 0, none⟩)], .string ⟨#[48]⟩]) (by simp [results, Tryz.results53, go_sem]) rfl ⟨_, _, _, rfl, ⟨made_num of_index _ _, rfl⟩, below4 _ _ _ _ _⟩

theorem session_makes (w : World) (hE : Env w) : Calls Tryz.prog 52 #[] w (Makes (fId 36 .session) w) := by
  go_enter Tryz.func52, Tryz.ntmps52
  go_wp2_with (go_at_call 84; refine (id36_raw _ _).mono ?_; rintro e w1 ⟨rfl, rfl⟩)
  exact bodyPost_ret (v := .agg #[.func (.func 132) #[] #[.pointer (some ⟨w.heap.size + 1, 0, none⟩), .pointer (some ⟨w.heap.size + 1 + 1, 0, none⟩)], .func (.func 134) #[] #[.pointer (some ⟨w.heap.size + 1, 0, none⟩), .pointer (some ⟨w.heap.size + 1 + 1, 0, none⟩)], .string (⟨#[36]⟩ ++ ⟨#[49, 32, 49]⟩)]) (by simp [results, Tryz.results52, go_sem]) rfl ⟨_, _, _, rfl, ⟨made_id of_session _ _ _ rfl, rfl⟩, below4 _ _ _ _ _⟩

theorem window_makes (w : World) (hE : Env w) : Calls Tryz.prog 47 #[] w (Makes (fId 64 .window) w) := by
  go_enter Tryz.func47, Tryz.ntmps47
  go_wp2_with (go_at_call 84; refine (id64_raw _ _).mono ?_; rintro e w1 ⟨rfl, rfl⟩)
  exact bodyPost_ret (v := .agg #[.func (.func 132) #[] #[.pointer (some ⟨w.heap.size + 1, 0, none⟩), .pointer (some ⟨w.heap.size + 1 + 1, 0, none⟩)], .func (.func 134) #[] #[.pointer (some ⟨w.heap.size + 1, 0, none⟩), .pointer (some ⟨w.heap.size + 1 + 1, 0, none⟩)], .string (⟨#[64]⟩ ++ ⟨#[49, 32, 49]⟩)]) (by simp [results, Tryz.results47, go_sem]) rfl ⟨_, _, _, rfl, ⟨made_id of_window _ _ _ rfl, rfl⟩, below4 _ _ _ _ _⟩

theorem pane_makes (w : World) (hE : Env w) : Calls Tryz.prog 44 #[] w (Makes (fId 37 .pane) w) := by
  go_enter Tryz.func44, Tryz.ntmps44
  go_wp2_with (go_at_call 84; refine (id37_raw _ _).mono ?_; rintro e w1 ⟨rfl, rfl⟩)
  exact bodyPost_ret (v := .agg #[.func (.func 132) #[] #[.pointer (some ⟨w.heap.size + 1, 0, none⟩), .pointer (some ⟨w.heap.size + 1 + 1, 0, none⟩)], .func (.func 134) #[] #[.pointer (some ⟨w.heap.size + 1, 0, none⟩), .pointer (some ⟨w.heap.size + 1 + 1, 0, none⟩)], .string (⟨#[37]⟩ ++ ⟨#[49, 32, 49]⟩)]) (by simp [results, Tryz.results44, go_sem]) rfl ⟨_, _, _, rfl, ⟨made_id of_pane _ _ _ rfl, rfl⟩, below4 _ _ _ _ _⟩

theorem name_makes (w : World) (hE : Env w) : Calls Tryz.prog 48 #[] w (Makes (fName) w) := by
  go_enter Tryz.func48, Tryz.ntmps48
  go_wp2_with (go_at_call 92; refine (named_raw _ _).mono ?_; rintro e w1 ⟨rfl, rfl⟩)
  exact bodyPost_ret (v := .agg #[.func (.func 136) #[] #[], .func (.func 137) #[] #[.pointer (some ⟨w.heap.size + 1, 0, none⟩)], .string ⟨#[97]⟩]) (by simp [results, Tryz.results48, go_sem]) rfl ⟨_, _, _, rfl, ⟨made_named test_name _ _, rfl⟩, below3 _ _ _ _⟩

theorem word_makes (w : World) (hE : Env w) : Calls Tryz.prog 54 #[] w (Makes (fWord) w) := by
  go_enter Tryz.func54, Tryz.ntmps54
  go_wp2_with (go_at_call 92; refine (named_raw _ _).mono ?_; rintro e w1 ⟨rfl, rfl⟩)
  exact bodyPost_ret (v := .agg #[.func (.func 136) #[] #[], .func (.func 137) #[] #[.pointer (some ⟨w.heap.size + 1, 0, none⟩)], .string ⟨#[97]⟩]) (by simp [results, Tryz.results54, go_sem]) rfl ⟨_, _, _, rfl, ⟨made_named test_word _ _, rfl⟩, below3 _ _ _ _⟩

theorem layout_makes (w : World) (hE : Env w) : Calls Tryz.prog 49 #[] w (Makes (fPlan .layout) w) := by
  go_enter Tryz.func49, Tryz.ntmps49
  go_wp2_with (go_at_call 94; refine (plan_raw _ _).mono ?_; rintro e w1 ⟨rfl, rfl⟩)
  exact bodyPost_ret (v := .agg #[.func (.func 140) #[] #[.pointer (some ⟨w.heap.size + 1, 0, none⟩)], .func (.func 141) #[] #[.pointer (some ⟨w.heap.size + 1, 0, none⟩)], .string ⟨#[48]⟩]) (by simp [results, Tryz.results49, go_sem]) rfl ⟨_, _, _, rfl, ⟨made_plan of_layout _ _, rfl⟩, below3 _ _ _ _⟩

theorem visible_makes (w : World) (hE : Env w) : Calls Tryz.prog 50 #[] w (Makes (fPlan .visible) w) := by
  go_enter Tryz.func50, Tryz.ntmps50
  go_wp2_with (go_at_call 94; refine (plan_raw _ _).mono ?_; rintro e w1 ⟨rfl, rfl⟩)
  exact bodyPost_ret (v := .agg #[.func (.func 140) #[] #[.pointer (some ⟨w.heap.size + 1, 0, none⟩)], .func (.func 141) #[] #[.pointer (some ⟨w.heap.size + 1, 0, none⟩)], .string ⟨#[48]⟩]) (by simp [results, Tryz.results50, go_sem]) rfl ⟨_, _, _, rfl, ⟨made_plan of_visible _ _, rfl⟩, below3 _ _ _ _⟩

theorem zoom_makes (w : World) (hE : Env w) : Calls Tryz.prog 51 #[] w (Makes (fZoom) w) := by
  go_enter Tryz.func51, Tryz.ntmps51
  go_wp2
  exact bodyPost_ret (v := .agg #[.func (.func 97) #[] #[], .func (.func 98) #[] #[], .string ⟨#[45]⟩]) (by simp [results, Tryz.results51, go_sem]) rfl ⟨_, _, _, rfl, ⟨⟨_, _, _, _, rfl, rfl, enters_zoom1, enters_zoom2, zoom_put _ _, zoom_read _ _⟩, rfl⟩, below1 _ _⟩

theorem colon_makes (w : World) (hE : Env w) : Calls Tryz.prog 55 #[] w (Makes (fColon) w) := by
  go_enter Tryz.func55, Tryz.ntmps55
  go_wp2
  exact bodyPost_ret (v := .agg #[.func (.func 102) #[] #[], .func (.func 103) #[] #[], .string ⟨#[58]⟩]) (by simp [results, Tryz.results55, go_sem]) rfl ⟨_, _, _, rfl, ⟨⟨_, _, _, _, rfl, rfl, enters_colon1, enters_colon2, colon_put _ _, colon_read _ _⟩, rfl⟩, below1 _ _⟩

theorem body_makes (w : World) (hE : Env w) : Calls Tryz.prog 43 #[] w (Makes (fBody) w) := by
  go_enter Tryz.func43, Tryz.ntmps43
  go_wp2
  exact bodyPost_ret (v := .agg #[.func (.func 80) #[] #[], .func (.func 82) #[] #[], .string ⟨#[49, 51, 52, 32, 51, 52, 32, 52, 32, 53]⟩]) (by simp [results, Tryz.results43, go_sem]) rfl ⟨_, _, _, rfl, ⟨⟨_, _, _, _, rfl, rfl, enters_body1, enters_body2, body_put _ _, body_read _ _⟩, rfl⟩, below1 _ _⟩

theorem escaped_makes (lo hi : Nat) (hlo : lo ≤ lim) (hhi : hi ≤ lim) (w : World) (hE : Env w) : Calls Tryz.prog 45 #[.int .i64 lo, .int .i64 hi] w (Makes (fEsc lo hi) w) :=
  (escaped_raw _ _ w).mono fun _ _ ⟨h1, h2⟩ => h2 ▸ ⟨_, _, _, h1, ⟨made_esc lo hi hlo hhi _, rfl⟩, below3 _ _ _ _⟩

theorem cell_at {w : World} {b : Nat} {cs : Array Value} {t : TypeId} (h : w.heap[b]? = some (.cells cs t (0, 0))) (o : Nat) : w.cell? ⟨b, o, none⟩ = cs[o]? := by simp [World.cell?, h]
theorem made_reason {w : World} (R C : Obj) (es : Value) :
    IsF w.heap.size (((((w.alloc R).alloc (.cells #[.int .i64 1] 3)).alloc (.cells #[.int .i64 1024] 3)).alloc C).alloc (.cells #[.func (.func 86) #[] #[.pointer (some ⟨w.heap.size + 1 + 1, 0, none⟩)], .func (.func 88) #[] #[.pointer (some ⟨w.heap.size + 1, 0, none⟩), .pointer (some ⟨w.heap.size + 1 + 1, 0, none⟩)], es] 60)) fReason
      (.func (.func 104) #[] #[.pointer (some ⟨w.heap.size + 1 + 1 + 1 + 1, 0, none⟩)]) (.func (.func 105) #[] #[.pointer (some ⟨w.heap.size + 1 + 1 + 1 + 1, 0, none⟩)]) := by
  have h := made_esc 1 1024 (by decide) (by decide) (w := w.alloc R) C
  rw [size1] at h
  obtain ⟨W, hW⟩ : ∃ W, (((w.alloc R).alloc (.cells #[.int .i64 1] 3)).alloc (.cells #[.int .i64 1024] 3)).alloc C = W := ⟨_, rfl⟩
  have hs : W.heap.size = w.heap.size + 1 + 1 + 1 + 1 := by rw [← hW, size1, size1, size1, size1]
  have h' : IsF (w.heap.size + 1) W (fEsc 1 1024) (.func (.func 86) #[] #[.pointer (some ⟨w.heap.size + 1 + 1, 0, none⟩)]) (.func (.func 88) #[] #[.pointer (some ⟨w.heap.size + 1, 0, none⟩), .pointer (some ⟨w.heap.size + 1 + 1, 0, none⟩)]) := hW ▸ h
  rw [hW, ← hs]
  obtain ⟨S, hS⟩ : ∃ S, Obj.cells #[.func (.func 86) #[] #[.pointer (some ⟨w.heap.size + 1 + 1, 0, none⟩)], .func (.func 88) #[] #[.pointer (some ⟨w.heap.size + 1, 0, none⟩), .pointer (some ⟨w.heap.size + 1 + 1, 0, none⟩)], es] 60 (0, 0) = S := ⟨_, rfl⟩
  have hb : (W.alloc S).heap[W.heap.size]? = some S := heap_alloc_new W S
  have h2 := h'.since (B' := w.heap.size) (Since.of_below (below1 W S)) (by omega)
  obtain ⟨g, lb, g', lb', e1, e2, e3, e4, e5, e6⟩ := h2
  have c1 : (W.alloc S).cell? ⟨W.heap.size, 0, none⟩ = some (.func (.func g) #[] lb) := (cell_at (by rw [hb, ← hS]) 0).trans (by rw [← e1]; rfl)
  have c2 : (W.alloc S).cell? ⟨W.heap.size, 1, none⟩ = some (.func (.func g') #[] lb') := (cell_at (by rw [hb, ← hS]) 1).trans (by rw [← e2]; rfl)
  rw [hS]
  exact ⟨_, _, _, _, rfl, rfl, enters_reason1, enters_reason2, reason_put _ _ _ g lb (by omega) c1 e3 e5, reason_read _ _ _ g' lb' (by omega) c2 e4 e6⟩

theorem reason_makes (w : World) (hE : Env w) : Calls Tryz.prog 56 #[] w (Makes fReason w) := by
  go_enter Tryz.func56, Tryz.ntmps56
  go_wp2_with (go_at_call 45; refine (escaped_raw _ _ _).mono ?_; rintro e w1 ⟨rfl, rfl⟩)
  exact bodyPost_ret (v := .agg #[.func (.func 104) #[] #[.pointer (some ⟨w.heap.size + 1 + 1 + 1 + 1, 0, none⟩)], .func (.func 105) #[] #[.pointer (some ⟨w.heap.size + 1 + 1 + 1 + 1, 0, none⟩)], .string ⟨#[49, 51, 52, 32, 51, 52, 32, 52]⟩]) (by simp [results, Tryz.results56, go_sem]) rfl
    ⟨_, _, _, rfl, ⟨made_reason _ _ _, rfl⟩, below_new (below4 _ _ _ _ _) (Nat.le_refl _) _⟩

end Go.Proofs.YtplolaondmeccaaGreatDoor
