/-
  Binds: the rows of the prefix table.
  Binds: prefixRows, the walk.
-/
import Derived.Test.YtbonnjilbocldaaGreatDoorHH
namespace Go.Proofs.YtbonnjilbocldaaGreatDoor
open Go.RowKit
set_option linter.unusedVariables false
set_option maxRecDepth 100000

def rowC (r : Rw) : List Value := [.string r.key, .string r.line]
/-- Rows that are one's own. -/
def RowsAt (w : World) (B : Nat) (v : Value) (l : List Rw) : Prop := w.ownsRow B 92 2 v l.length (l.flatMap rowC)
theorem RowsAt.keep {w w' : World} {B : Nat} {v : Value} {l : List Rw} (h : RowsAt w B v l) (hk : ∀ g, v.ownBlock = some g → w'.heap[g]? = w.heap[g]?) : RowsAt w' B v l := by
  refine ⟨h.1, ?_⟩
  rcases h.2 with h0 | ⟨g, cap, cur, rfl, hb, hg, r⟩
  · exact .inl h0
  · exact .inr ⟨g, cap, cur, rfl, hb, (hk g rfl).trans hg, r⟩
theorem RowsAt.blk {w : World} {B : Nat} {v : Value} {l : List Rw} (h : RowsAt w B v l) {g : Nat} (hg : v.ownBlock = some g) : B ≤ g ∧ ∃ cur, w.heap[g]? = some (.cells cur 92 (0, 0)) := by
  rcases h.2 with ⟨e, _⟩ | ⟨g', cap, cur, e, hb, hk, _⟩
  · rw [e] at hg; cases hg
  · rw [e] at hg; cases hg
    exact ⟨hb, cur, hk⟩
theorem RowsAt.below {w w' : World} {B : Nat} {v : Value} {l : List Rw} (h : RowsAt w B v l) (hb : Below w.heap.size w w') : RowsAt w' B v l := h.keep fun g hg => by
  obtain ⟨_, cur, hk⟩ := h.blk hg
  exact hb.block g (lt_block hk)
theorem infoRowE : (Tryz.prog.info? 92).map (fun i => (i.zero, i.size, i.bytes)) = some (some (.agg #[.string ⟨#[]⟩, .string ⟨#[]⟩]), 2, 32) := by kernel_rfl
theorem underRws : Tryz.prog.underlying 68 = some (.slice 92) := by kernel_rfl
theorem flat_row : ∀ (l : List Rw) (j : Nat) (hj : j < l.length) (c : Nat), c < 2 → (l.flatMap rowC)[j * 2 + c]? = (rowC l[j])[c]?
  | [], j, hj, _, _ => by simp at hj
  | a :: r, 0, hj, c, hc => by
    rw [List.flatMap_cons, List.getElem?_append_left (by show 0 * 2 + c < 2; omega)]
    simp
  | a :: r, j + 1, hj, c, hc => by
    rw [List.flatMap_cons, List.getElem?_append_right (by show 2 ≤ (j + 1) * 2 + c; omega)]
    have h := flat_row r j (by simpa using hj) c hc
    have e : (j + 1) * 2 + c - (rowC a).length = j * 2 + c := by show (j + 1) * 2 + c - 2 = _; omega
    rw [e, h]
    simp
theorem addR (b o j : Nat) : (⟨b, o, none⟩ : Addr).add j = ⟨b, o + j, none⟩ := by unfold Addr.add; split <;> simp_all
theorem RowsAt.see {w : World} {B : Nat} {v : Value} {l : List Rw} (h : RowsAt w B v l) (hl : l ≠ []) : SeeR w v l := by
  rcases h.2 with ⟨e, h0⟩ | ⟨g, cap, cur, e, hb, hk, h1, h2, h3, h4⟩
  · exact absurd (List.length_eq_zero_iff.1 h0) hl
  · subst e
    refine ⟨g, 0, cap, rfl, fun j hj => ?_⟩
    have h0 := World.ownsRow.cells h (g := g) rfl (j * 2 + 0) (.string l[j].key) (by rw [flat_row l j hj 0 (by omega)]; rfl)
    have h1 := World.ownsRow.cells h (g := g) rfl (j * 2 + 1) (.string l[j].line) (by rw [flat_row l j hj 1 (by omega)]; rfl)
    rw [addR] at h0 h1
    exact ⟨by simpa using h0, by simpa [Nat.add_assoc] using h1⟩
/-- A row is appended. -/
theorem wpList_append_rw (w : World) {ops : Array Oper} {rest : List Oper} {o : Oper} {a : Act} {Q : Exit → Act → World → Prop} (hgd : o.guard = none) (s x : Operand)
    (ho : o.op = .call { callee := .builtin .append, args := #[s, x], argTypes := #[68, 68] })
    (B : Nat) (v : Value) (l : List Rw) (hs : a.eval s = v) (hown : RowsAt w B v l) (G : Nat) (e : Rw) (hx : a.eval x = .slice (some ⟨G, 0, none⟩) 1 1) (hG : w.heap[G]? = some (.cells #[.string e.key, .string e.line] 92 (0, 0)))
    (hlen : l.length ≤ 20000000) (hbase : B ≤ w.heap.size)
    (h : ∀ v' w', RowsAt w' B v' (l ++ [e]) → w.grownBy w' v.ownBlock → wpList Tryz.prog ops Q rest (a.put o.dst v') w') : wpList Tryz.prog ops Q (o :: rest) a w := by
  obtain ⟨i0, hi, hz0, hz1, hz2⟩ := info_parts infoRowE
  refine wpList_append_own w hgd s x 68 ho B 92 i0 (.agg #[.string ⟨#[]⟩, .string ⟨#[]⟩]) 2 32 underRws hi hz0 hz1 hz2 rfl (by decide) v l.length (l.flatMap rowC) hs hown ⟨G, 0, none⟩ 1 1 (rowC e) hx rfl ?_ ?_ (by unfold maxLen; omega) (by omega) hbase ?_
  · intro j u hu
    rw [addR, Nat.zero_add, cell_at hG j]
    match j, hu with
    | 0, hu => exact hu
    | 1, hu => exact hu
    | j + 2, hu => simp [rowC] at hu
  · intro u hu
    simp only [rowC, List.mem_cons, List.not_mem_nil, or_false] at hu
    rcases hu with e | e <;> rw [e] <;> rfl
  · intro v' w' h2 h3 _
    refine h v' w' ?_ h3
    unfold RowsAt
    rw [List.length_append, List.flatMap_append]
    simpa using h2
def preS : List Rw := [⟨⟨#[99]⟩, ⟨#[110, 101, 119, 45, 119, 105, 110, 100, 111, 119]⟩, 99, 0⟩, ⟨⟨#[110]⟩, ⟨#[115, 101, 108, 101, 99, 116, 45, 119, 105, 110, 100, 111, 119, 32, 45, 110]⟩, 110, 0⟩, ⟨⟨#[112]⟩, ⟨#[115, 101, 108, 101, 99, 116, 45, 119, 105, 110, 100, 111, 119, 32, 45, 112]⟩, 112, 0⟩, ⟨⟨#[108]⟩, ⟨#[115, 101, 108, 101, 99, 116, 45, 119, 105, 110, 100, 111, 119, 32, 45, 108]⟩, 108, 0⟩, ⟨⟨#[38]⟩, ⟨#[107, 105, 108, 108, 45, 119, 105, 110, 100, 111, 119]⟩, 38, 0⟩, ⟨⟨#[34]⟩, ⟨#[115, 112, 108, 105, 116, 45, 119, 105, 110, 100, 111, 119]⟩, 34, 0⟩, ⟨⟨#[37]⟩, ⟨#[115, 112, 108, 105, 116, 45, 119, 105, 110, 100, 111, 119, 32, 45, 104]⟩, 37, 0⟩, ⟨⟨#[111]⟩, ⟨#[115, 101, 108, 101, 99, 116, 45, 112, 97, 110, 101, 32, 45, 116, 32, 43]⟩, 111, 0⟩, ⟨⟨#[59]⟩, ⟨#[115, 101, 108, 101, 99, 116, 45, 112, 97, 110, 101, 32, 45, 108]⟩, 59, 0⟩, ⟨⟨#[120]⟩, ⟨#[107, 105, 108, 108, 45, 112, 97, 110, 101]⟩, 120, 0⟩, ⟨⟨#[122]⟩, ⟨#[114, 101, 115, 105, 122, 101, 45, 112, 97, 110, 101, 32, 45, 90]⟩, 122, 0⟩, ⟨⟨#[33]⟩, ⟨#[98, 114, 101, 97, 107, 45, 112, 97, 110, 101]⟩, 33, 0⟩, ⟨⟨#[100]⟩, ⟨#[100, 101, 116, 97, 99, 104, 45, 99, 108, 105, 101, 110, 116]⟩, 100, 0⟩, ⟨⟨#[41]⟩, ⟨#[115, 119, 105, 116, 99, 104, 45, 99, 108, 105, 101, 110, 116, 32, 45, 110]⟩, 41, 0⟩, ⟨⟨#[40]⟩, ⟨#[115, 119, 105, 116, 99, 104, 45, 99, 108, 105, 101, 110, 116, 32, 45, 112]⟩, 40, 0⟩, ⟨⟨#[91]⟩, ⟨#[99, 111, 112, 121, 45, 109, 111, 100, 101]⟩, 91, 0⟩, ⟨⟨#[93]⟩, ⟨#[112, 97, 115, 116, 101, 45, 98, 117, 102, 102, 101, 114]⟩, 93, 0⟩, ⟨⟨#[61]⟩, ⟨#[108, 105, 115, 116, 45, 98, 117, 102, 102, 101, 114, 115]⟩, 61, 0⟩, ⟨⟨#[63]⟩, ⟨#[108, 105, 115, 116, 45, 107, 101, 121, 115]⟩, 63, 0⟩, ⟨⟨#[58]⟩, ⟨#[99, 111, 109, 109, 97, 110, 100, 45, 112, 114, 111, 109, 112, 116]⟩, 58, 0⟩, ⟨⟨#[44]⟩, ⟨#[99, 111, 109, 109, 97, 110, 100, 45, 112, 114, 111, 109, 112, 116, 32, 34, 114, 101, 110, 97, 109, 101, 45, 119, 105, 110, 100, 111, 119, 32, 34]⟩, 44, 0⟩, ⟨⟨#[83, 112, 97, 99, 101]⟩, ⟨#[115, 101, 108, 101, 99, 116, 45, 108, 97, 121, 111, 117, 116, 32, 116, 105, 108, 101, 100]⟩, 32, 0⟩]
def digS (k : Nat) : Rw := ⟨⟨#[UInt8.ofNat (48 + k)]⟩, ⟨#[115, 101, 108, 101, 99, 116, 45, 119, 105, 110, 100, 111, 119, 32, 45, 116, 32, 58, UInt8.ofNat (48 + k)]⟩, 48 + k, 0⟩
def preL (k : Nat) : List Rw := preS ++ (List.range k).map digS
theorem preL_succ (k : Nat) : preL (k + 1) = preL k ++ [digS k] := by
  unfold preL
  rw [List.range_succ, List.map_append, List.append_assoc]
  rfl
theorem preL_len (k : Nat) : (preL k).length = 22 + k := by
  unfold preL
  rw [List.length_append, List.length_map, List.length_range]
  rfl
theorem preS_ok : ∀ r ∈ preS, r.ok := by
  intro r hr
  simp only [preS, List.mem_cons, List.not_mem_nil, or_false] at hr
  rcases hr with rfl | rfl | rfl | rfl | rfl | rfl | rfl | rfl | rfl | rfl | rfl | rfl | rfl | rfl | rfl | rfl | rfl | rfl | rfl | rfl | rfl | rfl <;> exact ⟨by kernel_rfl, by decide, by decide, by decide, by decide⟩
theorem digS_ok : ∀ k : Fin 10, readF (digS k.val).key.data.toList = some ((digS k.val).c, (digS k.val).m) ∧ (Lit.int .i64 (digS k.val).c).wf = true ∧ (Lit.int .i64 (digS k.val).m).wf = true ∧ (digS k.val).key.size ≤ 1000 ∧ (digS k.val).line.size ≤ 8192 := by decide
theorem preL_ok : ∀ r ∈ preL 10, r.ok := by
  intro r hr
  unfold preL at hr
  rcases List.mem_append.1 hr with h | h
  · exact preS_ok r h
  · obtain ⟨k, hk, rfl⟩ := List.mem_map.1 h
    exact digS_ok ⟨k, List.mem_range.1 hk⟩
theorem rows_start (w : World) : RowsAt (w.alloc (.cells #[.string ⟨#[99]⟩, .string ⟨#[110, 101, 119, 45, 119, 105, 110, 100, 111, 119]⟩, .string ⟨#[110]⟩, .string ⟨#[115, 101, 108, 101, 99, 116, 45, 119, 105, 110, 100, 111, 119, 32, 45, 110]⟩, .string ⟨#[112]⟩, .string ⟨#[115, 101, 108, 101, 99, 116, 45, 119, 105, 110, 100, 111, 119, 32, 45, 112]⟩, .string ⟨#[108]⟩, .string ⟨#[115, 101, 108, 101, 99, 116, 45, 119, 105, 110, 100, 111, 119, 32, 45, 108]⟩, .string ⟨#[38]⟩, .string ⟨#[107, 105, 108, 108, 45, 119, 105, 110, 100, 111, 119]⟩, .string ⟨#[34]⟩, .string ⟨#[115, 112, 108, 105, 116, 45, 119, 105, 110, 100, 111, 119]⟩, .string ⟨#[37]⟩, .string ⟨#[115, 112, 108, 105, 116, 45, 119, 105, 110, 100, 111, 119, 32, 45, 104]⟩, .string ⟨#[111]⟩, .string ⟨#[115, 101, 108, 101, 99, 116, 45, 112, 97, 110, 101, 32, 45, 116, 32, 43]⟩, .string ⟨#[59]⟩, .string ⟨#[115, 101, 108, 101, 99, 116, 45, 112, 97, 110, 101, 32, 45, 108]⟩, .string ⟨#[120]⟩, .string ⟨#[107, 105, 108, 108, 45, 112, 97, 110, 101]⟩, .string ⟨#[122]⟩, .string ⟨#[114, 101, 115, 105, 122, 101, 45, 112, 97, 110, 101, 32, 45, 90]⟩, .string ⟨#[33]⟩, .string ⟨#[98, 114, 101, 97, 107, 45, 112, 97, 110, 101]⟩, .string ⟨#[100]⟩, .string ⟨#[100, 101, 116, 97, 99, 104, 45, 99, 108, 105, 101, 110, 116]⟩, .string ⟨#[41]⟩, .string ⟨#[115, 119, 105, 116, 99, 104, 45, 99, 108, 105, 101, 110, 116, 32, 45, 110]⟩, .string ⟨#[40]⟩, .string ⟨#[115, 119, 105, 116, 99, 104, 45, 99, 108, 105, 101, 110, 116, 32, 45, 112]⟩, .string ⟨#[91]⟩, .string ⟨#[99, 111, 112, 121, 45, 109, 111, 100, 101]⟩, .string ⟨#[93]⟩, .string ⟨#[112, 97, 115, 116, 101, 45, 98, 117, 102, 102, 101, 114]⟩, .string ⟨#[61]⟩, .string ⟨#[108, 105, 115, 116, 45, 98, 117, 102, 102, 101, 114, 115]⟩, .string ⟨#[63]⟩, .string ⟨#[108, 105, 115, 116, 45, 107, 101, 121, 115]⟩, .string ⟨#[58]⟩, .string ⟨#[99, 111, 109, 109, 97, 110, 100, 45, 112, 114, 111, 109, 112, 116]⟩, .string ⟨#[44]⟩, .string ⟨#[99, 111, 109, 109, 97, 110, 100, 45, 112, 114, 111, 109, 112, 116, 32, 34, 114, 101, 110, 97, 109, 101, 45, 119, 105, 110, 100, 111, 119, 32, 34]⟩, .string ⟨#[83, 112, 97, 99, 101]⟩, .string ⟨#[115, 101, 108, 101, 99, 116, 45, 108, 97, 121, 111, 117, 116, 32, 116, 105, 108, 101, 100]⟩] 92)) w.heap.size (.slice (some ⟨w.heap.size, 0, none⟩) 22 22) preS :=
  ⟨by rfl, .inr ⟨w.heap.size, 22, _, rfl, Nat.le_refl _, heap_alloc_new w _, Nat.le_refl _, by decide, rfl, rfl⟩⟩
end Go.Proofs.YtbonnjilbocldaaGreatDoor

namespace Go.Proofs.YtbonnjilbocldaaGreatDoor
open Go.RowKit
set_option linter.unusedVariables false
set_option maxRecDepth 100000

set_option maxHeartbeats 4000000 in
theorem prefixRows_any (w : World) : Calls Tryz.prog 26 #[] w fun e w' => ∃ v, e = .returned v ∧ SeeR w' v (preL 10) ∧ Below w.heap.size w w' := by
  have HB : Hid (∀ ob, Below w.heap.size w (w.alloc ob)) := fun ob => (Below.refl _ _).alloc (Nat.le_refl _) _
  have HS := hidK (rows_start w)
  have HW := hidK (HB.out (.cells #[.string ⟨#[99]⟩, .string ⟨#[110, 101, 119, 45, 119, 105, 110, 100, 111, 119]⟩, .string ⟨#[110]⟩, .string ⟨#[115, 101, 108, 101, 99, 116, 45, 119, 105, 110, 100, 111, 119, 32, 45, 110]⟩, .string ⟨#[112]⟩, .string ⟨#[115, 101, 108, 101, 99, 116, 45, 119, 105, 110, 100, 111, 119, 32, 45, 112]⟩, .string ⟨#[108]⟩, .string ⟨#[115, 101, 108, 101, 99, 116, 45, 119, 105, 110, 100, 111, 119, 32, 45, 108]⟩, .string ⟨#[38]⟩, .string ⟨#[107, 105, 108, 108, 45, 119, 105, 110, 100, 111, 119]⟩, .string ⟨#[34]⟩, .string ⟨#[115, 112, 108, 105, 116, 45, 119, 105, 110, 100, 111, 119]⟩, .string ⟨#[37]⟩, .string ⟨#[115, 112, 108, 105, 116, 45, 119, 105, 110, 100, 111, 119, 32, 45, 104]⟩, .string ⟨#[111]⟩, .string ⟨#[115, 101, 108, 101, 99, 116, 45, 112, 97, 110, 101, 32, 45, 116, 32, 43]⟩, .string ⟨#[59]⟩, .string ⟨#[115, 101, 108, 101, 99, 116, 45, 112, 97, 110, 101, 32, 45, 108]⟩, .string ⟨#[120]⟩, .string ⟨#[107, 105, 108, 108, 45, 112, 97, 110, 101]⟩, .string ⟨#[122]⟩, .string ⟨#[114, 101, 115, 105, 122, 101, 45, 112, 97, 110, 101, 32, 45, 90]⟩, .string ⟨#[33]⟩, .string ⟨#[98, 114, 101, 97, 107, 45, 112, 97, 110, 101]⟩, .string ⟨#[100]⟩, .string ⟨#[100, 101, 116, 97, 99, 104, 45, 99, 108, 105, 101, 110, 116]⟩, .string ⟨#[41]⟩, .string ⟨#[115, 119, 105, 116, 99, 104, 45, 99, 108, 105, 101, 110, 116, 32, 45, 110]⟩, .string ⟨#[40]⟩, .string ⟨#[115, 119, 105, 116, 99, 104, 45, 99, 108, 105, 101, 110, 116, 32, 45, 112]⟩, .string ⟨#[91]⟩, .string ⟨#[99, 111, 112, 121, 45, 109, 111, 100, 101]⟩, .string ⟨#[93]⟩, .string ⟨#[112, 97, 115, 116, 101, 45, 98, 117, 102, 102, 101, 114]⟩, .string ⟨#[61]⟩, .string ⟨#[108, 105, 115, 116, 45, 98, 117, 102, 102, 101, 114, 115]⟩, .string ⟨#[63]⟩, .string ⟨#[108, 105, 115, 116, 45, 107, 101, 121, 115]⟩, .string ⟨#[58]⟩, .string ⟨#[99, 111, 109, 109, 97, 110, 100, 45, 112, 114, 111, 109, 112, 116]⟩, .string ⟨#[44]⟩, .string ⟨#[99, 111, 109, 109, 97, 110, 100, 45, 112, 114, 111, 109, 112, 116, 32, 34, 114, 101, 110, 97, 109, 101, 45, 119, 105, 110, 100, 111, 119, 32, 34]⟩, .string ⟨#[83, 112, 97, 99, 101]⟩, .string ⟨#[115, 101, 108, 101, 99, 116, 45, 108, 97, 121, 111, 117, 116, 32, 116, 105, 108, 101, 100]⟩] 92))
  clear HB
  go_enter Tryz.func26, Tryz.ntmps26
  go_wp2_with fail
  generalize w.alloc (.cells #[.string ⟨#[99]⟩, .string ⟨#[110, 101, 119, 45, 119, 105, 110, 100, 111, 119]⟩, .string ⟨#[110]⟩, .string ⟨#[115, 101, 108, 101, 99, 116, 45, 119, 105, 110, 100, 111, 119, 32, 45, 110]⟩, .string ⟨#[112]⟩, .string ⟨#[115, 101, 108, 101, 99, 116, 45, 119, 105, 110, 100, 111, 119, 32, 45, 112]⟩, .string ⟨#[108]⟩, .string ⟨#[115, 101, 108, 101, 99, 116, 45, 119, 105, 110, 100, 111, 119, 32, 45, 108]⟩, .string ⟨#[38]⟩, .string ⟨#[107, 105, 108, 108, 45, 119, 105, 110, 100, 111, 119]⟩, .string ⟨#[34]⟩, .string ⟨#[115, 112, 108, 105, 116, 45, 119, 105, 110, 100, 111, 119]⟩, .string ⟨#[37]⟩, .string ⟨#[115, 112, 108, 105, 116, 45, 119, 105, 110, 100, 111, 119, 32, 45, 104]⟩, .string ⟨#[111]⟩, .string ⟨#[115, 101, 108, 101, 99, 116, 45, 112, 97, 110, 101, 32, 45, 116, 32, 43]⟩, .string ⟨#[59]⟩, .string ⟨#[115, 101, 108, 101, 99, 116, 45, 112, 97, 110, 101, 32, 45, 108]⟩, .string ⟨#[120]⟩, .string ⟨#[107, 105, 108, 108, 45, 112, 97, 110, 101]⟩, .string ⟨#[122]⟩, .string ⟨#[114, 101, 115, 105, 122, 101, 45, 112, 97, 110, 101, 32, 45, 90]⟩, .string ⟨#[33]⟩, .string ⟨#[98, 114, 101, 97, 107, 45, 112, 97, 110, 101]⟩, .string ⟨#[100]⟩, .string ⟨#[100, 101, 116, 97, 99, 104, 45, 99, 108, 105, 101, 110, 116]⟩, .string ⟨#[41]⟩, .string ⟨#[115, 119, 105, 116, 99, 104, 45, 99, 108, 105, 101, 110, 116, 32, 45, 110]⟩, .string ⟨#[40]⟩, .string ⟨#[115, 119, 105, 116, 99, 104, 45, 99, 108, 105, 101, 110, 116, 32, 45, 112]⟩, .string ⟨#[91]⟩, .string ⟨#[99, 111, 112, 121, 45, 109, 111, 100, 101]⟩, .string ⟨#[93]⟩, .string ⟨#[112, 97, 115, 116, 101, 45, 98, 117, 102, 102, 101, 114]⟩, .string ⟨#[61]⟩, .string ⟨#[108, 105, 115, 116, 45, 98, 117, 102, 102, 101, 114, 115]⟩, .string ⟨#[63]⟩, .string ⟨#[108, 105, 115, 116, 45, 107, 101, 121, 115]⟩, .string ⟨#[58]⟩, .string ⟨#[99, 111, 109, 109, 97, 110, 100, 45, 112, 114, 111, 109, 112, 116]⟩, .string ⟨#[44]⟩, .string ⟨#[99, 111, 109, 109, 97, 110, 100, 45, 112, 114, 111, 109, 112, 116, 32, 34, 114, 101, 110, 97, 109, 101, 45, 119, 105, 110, 100, 111, 119, 32, 34]⟩, .string ⟨#[83, 112, 97, 99, 101]⟩, .string ⟨#[115, 101, 108, 101, 99, 116, 45, 108, 97, 121, 111, 117, 116, 32, 116, 105, 108, 101, 100]⟩] 92) = W0 at HS HW ⊢
  generalize (Value.agg #[.string ⟨#[99]⟩, .string ⟨#[110, 101, 119, 45, 119, 105, 110, 100, 111, 119]⟩]) = x0
  generalize (Value.agg #[.string ⟨#[110]⟩, .string ⟨#[115, 101, 108, 101, 99, 116, 45, 119, 105, 110, 100, 111, 119, 32, 45, 110]⟩]) = x1
  generalize (Value.agg #[.string ⟨#[112]⟩, .string ⟨#[115, 101, 108, 101, 99, 116, 45, 119, 105, 110, 100, 111, 119, 32, 45, 112]⟩]) = x2
  generalize (Value.agg #[.string ⟨#[108]⟩, .string ⟨#[115, 101, 108, 101, 99, 116, 45, 119, 105, 110, 100, 111, 119, 32, 45, 108]⟩]) = x3
  generalize (Value.agg #[.string ⟨#[38]⟩, .string ⟨#[107, 105, 108, 108, 45, 119, 105, 110, 100, 111, 119]⟩]) = x4
  generalize (Value.agg #[.string ⟨#[34]⟩, .string ⟨#[115, 112, 108, 105, 116, 45, 119, 105, 110, 100, 111, 119]⟩]) = x5
  generalize (Value.agg #[.string ⟨#[37]⟩, .string ⟨#[115, 112, 108, 105, 116, 45, 119, 105, 110, 100, 111, 119, 32, 45, 104]⟩]) = x6
  generalize (Value.agg #[.string ⟨#[111]⟩, .string ⟨#[115, 101, 108, 101, 99, 116, 45, 112, 97, 110, 101, 32, 45, 116, 32, 43]⟩]) = x7
  generalize (Value.agg #[.string ⟨#[59]⟩, .string ⟨#[115, 101, 108, 101, 99, 116, 45, 112, 97, 110, 101, 32, 45, 108]⟩]) = x8
  generalize (Value.agg #[.string ⟨#[120]⟩, .string ⟨#[107, 105, 108, 108, 45, 112, 97, 110, 101]⟩]) = x9
  generalize (Value.agg #[.string ⟨#[122]⟩, .string ⟨#[114, 101, 115, 105, 122, 101, 45, 112, 97, 110, 101, 32, 45, 90]⟩]) = x10
  generalize (Value.agg #[.string ⟨#[33]⟩, .string ⟨#[98, 114, 101, 97, 107, 45, 112, 97, 110, 101]⟩]) = x11
  generalize (Value.agg #[.string ⟨#[100]⟩, .string ⟨#[100, 101, 116, 97, 99, 104, 45, 99, 108, 105, 101, 110, 116]⟩]) = x12
  generalize (Value.agg #[.string ⟨#[41]⟩, .string ⟨#[115, 119, 105, 116, 99, 104, 45, 99, 108, 105, 101, 110, 116, 32, 45, 110]⟩]) = x13
  generalize (Value.agg #[.string ⟨#[40]⟩, .string ⟨#[115, 119, 105, 116, 99, 104, 45, 99, 108, 105, 101, 110, 116, 32, 45, 112]⟩]) = x14
  generalize (Value.agg #[.string ⟨#[91]⟩, .string ⟨#[99, 111, 112, 121, 45, 109, 111, 100, 101]⟩]) = x15
  generalize (Value.agg #[.string ⟨#[93]⟩, .string ⟨#[112, 97, 115, 116, 101, 45, 98, 117, 102, 102, 101, 114]⟩]) = x16
  generalize (Value.agg #[.string ⟨#[61]⟩, .string ⟨#[108, 105, 115, 116, 45, 98, 117, 102, 102, 101, 114, 115]⟩]) = x17
  generalize (Value.agg #[.string ⟨#[63]⟩, .string ⟨#[108, 105, 115, 116, 45, 107, 101, 121, 115]⟩]) = x18
  generalize (Value.agg #[.string ⟨#[58]⟩, .string ⟨#[99, 111, 109, 109, 97, 110, 100, 45, 112, 114, 111, 109, 112, 116]⟩]) = x19
  generalize (Value.agg #[.string ⟨#[44]⟩, .string ⟨#[99, 111, 109, 109, 97, 110, 100, 45, 112, 114, 111, 109, 112, 116, 32, 34, 114, 101, 110, 97, 109, 101, 45, 119, 105, 110, 100, 111, 119, 32, 34]⟩]) = x20
  generalize (Value.agg #[.string ⟨#[83, 112, 97, 99, 101]⟩, .string ⟨#[115, 101, 108, 101, 99, 116, 45, 108, 97, 121, 111, 117, 116, 32, 116, 105, 108, 101, 100]⟩]) = x21
  go_loopw [1, 27] (fun s1 s27 wr => ∃ k : Nat, k ≤ 10 ∧ s27 = .int .i64 (k : Int) ∧ Hid (RowsAt wr w.heap.size s1 (preL k) ∧ Below w.heap.size w wr)) (fun _ s27 _ => 10 - (intOf s27).toNat)
  case atStart => exact ⟨0, by omega, rfl, hidK ⟨HS.out, HW.out⟩⟩
  case round =>
    obtain ⟨k, hk, rfl, HR⟩ := hrel
    by_cases hlt : k < 10
    · have hlt' : (k : Int) < 10 := by omega
      obtain ⟨dg, hdg⟩ : ∃ q : ByteArray, (⟨#[UInt8.ofNat (48 + k)]⟩ : ByteArray) = q := ⟨_, rfl⟩
      have HPd : Hid (∀ Y, Calls Tryz.prog 47 #[.int .i64 (k : Int)] Y fun e w' => e = .returned (.string dg) ∧ Y = w') := fun Y => by rw [← hdg]; exact putDigit_any k hlt Y
      have HDg : Hid (digS k = ⟨dg, ⟨#[115, 101, 108, 101, 99, 116, 45, 119, 105, 110, 100, 111, 119, 32, 45, 116, 32, 58]⟩ ++ dg, 48 + k, 0⟩) := by
        show _ = _
        rw [← hdg]
        unfold digS
        congr 1
      have HDz : Hid (dg.size = 1) := by
        show _ = _
        rw [← hdg]
        rfl
      clear hdg
      have HSz := hidK HR.out.2.size
      have HKR : Hid (RowsAt wr w.heap.size u1 (preL k)) := HR.out.1
      go_wp2_with (first
        | (go_at_call 47; refine (HPd.out _).mono ?_; rintro e Y ⟨rfl, rfl⟩)
        | (at_builtin; refine wpList_append_rw _ rfl (.tmp 32) (.tmp 37) rfl w.heap.size _ (preL k) rfl (HKR.out.below ((Below.refl _ _).alloc (Nat.le_refl _) _)) wr.heap.size ⟨dg, ⟨#[115, 101, 108, 101, 99, 116, 45, 119, 105, 110, 100, 111, 119, 32, 45, 116, 32, 58]⟩ ++ dg, 48 + k, 0⟩ rfl (heap_alloc_new wr _) ?x1 ?x2 ?_; (case x1 => rw [preL_len]; omega); (case x2 => have h1 := HSz.out; simp; omega); intro v2 w6 ho6 hg6))
      · exfalso
        have hz : 9223372036854775807 < 18 + dg.size := by assumption
        have := HDz.out
        omega
      refine ⟨⟨k + 1, by omega, rfl, hidK ⟨?_, ?_⟩⟩, ?_⟩
      · rw [preL_succ, HDg.out]
        exact ho6
      · have hbl : Below w.heap.size w (wr.alloc (.cells #[.string dg, .string (⟨#[115, 101, 108, 101, 99, 116, 45, 119, 105, 110, 100, 111, 119, 32, 45, 116, 32, 58]⟩ ++ dg)] 92)) := HR.out.2.alloc HSz.out _
        exact hbl.grown hg6 hbl.size (fun j hj => (HKR.out.blk hj).1)
      · simp [intOf]; omega
    · obtain rfl : k = 10 := by omega
      go_wp2_with fail
      go_ret
      exact ⟨_, rfl, HR.out.1.see (by unfold preL preS; simp), HR.out.2⟩
end Go.Proofs.YtbonnjilbocldaaGreatDoor
