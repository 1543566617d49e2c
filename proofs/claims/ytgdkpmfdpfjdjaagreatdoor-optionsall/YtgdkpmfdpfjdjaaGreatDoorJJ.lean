/-
  Options: the document's rows.
  Options: the document's row of a name.
  Options: the document's scope of a name.
-/
import Derived.Test.YtgdkpmfdpfjdjaaGreatDoorOScp
import Derived.Deep.DeepCutAuto
namespace Go.Proofs.YtgdkpmfdpfjdjaaGreatDoor
open Go.RowKit
set_option linter.unusedVariables false
set_option maxRecDepth 100000

/-- A row of the document's, its words at a block. -/
def docV (p : Nat) (r : Orow) : List Value := match r.kd with
  | .num lo hi => [.string r.name, .int .i64 r.scope, .int .u8 110, .int .i64 lo, .int .i64 hi, .slice none 0 0, .string r.first]
  | .txt => [.string r.name, .int .i64 r.scope, .int .u8 116, .int .i64 0, .int .i64 0, .slice none 0 0, .string r.first]
  | .key => [.string r.name, .int .i64 r.scope, .int .u8 107, .int .i64 0, .int .i64 0, .slice none 0 0, .string r.first]
  | .flag => [.string r.name, .int .i64 r.scope, .int .u8 102, .int .i64 0, .int .i64 0, .slice none 0 0, .string r.first]
  | .cho ws => [.string r.name, .int .i64 r.scope, .int .u8 99, .int .i64 0, .int .i64 0, .slice (some ⟨p, 0, none⟩) ws.length ws.length, .string r.first]
def wpO (h i : Nat) : Nat := if i = 6 then h else if i = 8 then h + 1 else h + 2
def docsO (h : Nat) : Nat → List Orow → List Value
  | _, [] => []
  | i, r :: l => docV (wpO h i) r ++ docsO h (i + 1) l
theorem docV_len (p : Nat) (r : Orow) : (docV p r).length = 7 := by
  unfold docV
  split <;> rfl
theorem docsO_at (h : Nat) : ∀ (l : List Orow) (i j : Nat) (hj : j < l.length) (c : Nat), c < 7 → (docsO h i l)[j * 7 + c]? = (docV (wpO h (i + j)) l[j])[c]?
  | r :: l, i, 0, _, c, hc => by
    show (docV _ r ++ _)[0 * 7 + c]? = _
    rw [Nat.zero_mul, Nat.zero_add, List.getElem?_append_left (by rw [docV_len]; exact hc)]
    rfl
  | r :: l, i, j + 1, hj, c, hc => by
    show (docV _ r ++ _)[(j + 1) * 7 + c]? = _
    rw [List.getElem?_append_right (by rw [docV_len]; omega), docV_len, show (j + 1) * 7 + c - 7 = j * 7 + c by omega, docsO_at h l (i + 1) j (by simpa using hj) c hc, show i + 1 + j = i + (j + 1) by omega]
    rfl
/-- The words of a row, in memory. -/
def wordsAt (Y : World) (p : Nat) (r : Orow) : Prop := ∀ ws, r.kd = .cho ws → Y.heap[p]? = some (.cells (ws.map Value.string).toArray 9 (0, 0))
/-- The document's rows in memory. -/
structure DocRows (Y : World) (h : Nat) : Prop where
  rows : Y.heap[h + 1 + 1 + 1]? = some (.cells (docsO h 0 rowsO).toArray 56 (0, 0))
  w0 : Y.heap[h]? = some (.cells #[.string ⟨#[112, 108, 97, 105, 110]⟩, .string ⟨#[114, 101, 118, 101, 114, 115, 101]⟩, .string ⟨#[98, 111, 108, 100]⟩] 9 (0, 0))
  w1 : Y.heap[h + 1]? = some (.cells #[.string ⟨#[108, 105, 110, 101]⟩, .string ⟨#[100, 111, 117, 98, 108, 101]⟩, .string ⟨#[98, 108, 97, 110, 107]⟩] 9 (0, 0))
  w2 : Y.heap[h + 1 + 1]? = some (.cells #[.string ⟨#[98, 111, 116, 116, 111, 109]⟩, .string ⟨#[116, 111, 112]⟩] 9 (0, 0))
theorem DocRows.below {Y Z : World} {h : Nat} (d : DocRows Y h) (hb : Below Y.heap.size Y Z) : DocRows Z h :=
  ⟨(hb.block _ (lt_block d.rows)).trans d.rows, (hb.block _ (lt_block d.w0)).trans d.w0, (hb.block _ (lt_block d.w1)).trans d.w1, (hb.block _ (lt_block d.w2)).trans d.w2⟩
theorem alloc_size (w : World) (o : Obj) : (w.alloc o).heap.size = w.heap.size + 1 := by simp only [World.size_alloc]
theorem four_blocks (w : World) (A B C D : Array Value) (t u : TypeId) : ∃ W, W = (((w.alloc (.cells A t)).alloc (.cells B t)).alloc (.cells C t)).alloc (.cells D u) ∧ W.heap[w.heap.size + 1 + 1 + 1]? = some (.cells D u (0, 0)) ∧ W.heap[w.heap.size]? = some (.cells A t (0, 0)) ∧ W.heap[w.heap.size + 1]? = some (.cells B t (0, 0)) ∧ W.heap[w.heap.size + 1 + 1]? = some (.cells C t (0, 0)) ∧ Below w.heap.size w W := by
  refine ⟨_, rfl, ?_, ?_, ?_, ?_, ?_⟩
  · have h := heap_alloc_new (((w.alloc (.cells A t)).alloc (.cells B t)).alloc (.cells C t)) (.cells D u)
    rw [alloc_size, alloc_size, alloc_size] at h
    exact h
  · rw [Below.heap_alloc _ _ _ (by rw [alloc_size, alloc_size, alloc_size]; omega), Below.heap_alloc _ _ _ (by rw [alloc_size, alloc_size]; omega), Below.heap_alloc _ _ _ (by rw [alloc_size]; omega)]
    exact heap_alloc_new w (.cells A t)
  · rw [Below.heap_alloc _ _ _ (by rw [alloc_size, alloc_size, alloc_size]; omega), Below.heap_alloc _ _ _ (by rw [alloc_size, alloc_size]; omega)]
    have h := heap_alloc_new (w.alloc (.cells A t)) (.cells B t)
    rw [alloc_size] at h
    exact h
  · rw [Below.heap_alloc _ _ _ (by rw [alloc_size, alloc_size, alloc_size]; omega)]
    have h := heap_alloc_new ((w.alloc (.cells A t)).alloc (.cells B t)) (.cells C t)
    rw [alloc_size, alloc_size] at h
    exact h
  · exact (((Below.refl _ w).alloc (Nat.le_refl _) _).alloc (by rw [alloc_size]; omega) _).alloc (by rw [alloc_size, alloc_size]; omega) _ |>.alloc (by rw [alloc_size, alloc_size, alloc_size]; omega) _
set_option maxHeartbeats 4000000 in
theorem rows_any (w : World) : Calls Tryz.prog 21 #[] w fun e w' => e = .returned (.slice (some ⟨w.heap.size + 1 + 1 + 1, 0, none⟩) 22 22) ∧ DocRows w' w.heap.size ∧ Below w.heap.size w w' := by
  obtain ⟨W, hW, q1, q2, q3, q4, q5⟩ := four_blocks w #[.string ⟨#[112, 108, 97, 105, 110]⟩, .string ⟨#[114, 101, 118, 101, 114, 115, 101]⟩, .string ⟨#[98, 111, 108, 100]⟩] #[.string ⟨#[108, 105, 110, 101]⟩, .string ⟨#[100, 111, 117, 98, 108, 101]⟩, .string ⟨#[98, 108, 97, 110, 107]⟩] #[.string ⟨#[98, 111, 116, 116, 111, 109]⟩, .string ⟨#[116, 111, 112]⟩] (docsO w.heap.size 0 rowsO).toArray 9 56
  have HD : Hid (DocRows W w.heap.size ∧ Below w.heap.size w W) := ⟨⟨q1, q2, q3, q4⟩, q5⟩
  have HW := hidK hW
  clear q1 q2 q3 q4 q5 hW
  go_enter Tryz.func21, Tryz.ntmps21
  go_wp2_with fail
  go_ret
  refine ⟨rfl, ?_⟩
  have key : ∀ X : World, W = X → DocRows X w.heap.size ∧ Below w.heap.size w X := fun X h => h ▸ HD.out
  refine key _ ?_
  refine HW.out.trans ?_
  kernel_rfl
end Go.Proofs.YtgdkpmfdpfjdjaaGreatDoor

namespace Go.Proofs.YtgdkpmfdpfjdjaaGreatDoor
open Go.RowKit
set_option linter.unusedVariables false
set_option maxRecDepth 100000

/-- A row's value. -/
def docA (p : Nat) (r : Orow) : Value := .agg (docV p r).toArray
theorem DocRows.cell {Y : World} {h : Nat} (d : DocRows Y h) {i : Nat} (hi : i < rowsO.length) {c : Nat} (hc : c < 7) : Y.cell? ⟨h + 1 + 1 + 1, i * 7 + c, none⟩ = (docV (wpO h i) rowsO[i])[c]? := by
  have h1 := cell_at d.rows (i * 7 + c)
  rw [h1, List.getElem?_toArray, docsO_at h rowsO 0 i hi c hc, Nat.zero_add]
theorem docV_is (p : Nat) (r : Orow) : ∃ (kb lo hi : Int) (ad : Option Addr) (m : Nat), docV p r = [.string r.name, .int .i64 r.scope, .int .u8 kb, .int .i64 lo, .int .i64 hi, .slice ad m m, .string r.first] := by
  unfold docV
  split <;> exact ⟨_, _, _, _, _, rfl⟩
/-- A store beside the rows. -/
theorem DocRows.put {Y : World} {h Q : Nat} (d : DocRows Y h) (hQ : Q < h) (i : Nat) (v : Value) : DocRows (Y.setCell ⟨Q, i, none⟩ v) h :=
  ⟨put_other d.rows (by omega) _ _, put_other d.w0 (by omega) _ _, put_other d.w1 (by omega) _ _, put_other d.w2 (by omega) _ _⟩
theorem rows_22 : rowsO.length = 22 := by decide
theorem ret_cellO {P : Program} {fn : Func} {p u : Tmp} {ty : TypeId} (h : fn.results = #[.cell p ty, .tmp u]) {a : Act} {w : World} {R : Ending → World → Prop} {g : Nat} {t : TypeId} {cs : Array Value} {fr : Nat × Nat} {d : TypeDesc}
    (hp : a.tmps.getD p undef = .pointer (some ⟨g, 0, none⟩)) (hg : w.heap[g]? = some (.cells cs t fr)) (hu : P.underlying ty = some d) (hd : (match d with | .struct _ | .array _ _ => true | _ => false) = true) (hi : (P.info? ty).map (·.size) = some cs.size)
    (hdf : a.defers = []) (hR : R (.returned (.tuple #[.agg cs, a.tmps.getD u undef])) w) : bodyPost P fn R .ret a w := by
  refine bodyPost_ret ?_ hdf hR
  rw [results_cell_tmp h, hp]
  have h1 : (asAddr (.pointer (some ⟨g, 0, none⟩))).run P w = .ok ⟨g, 0, none⟩ w := rfl
  rw [h1]
  simp only [Result.andThen]
  rw [run_loadVar_row w g t ty cs fr d hg hu hd hi]
theorem infoRow : (Tryz.prog.info? 56).map (·.size) = some 7 := by kernel_rfl
theorem seven_set {W : World} {g : Nat} {T : TypeId} {c0 c1 c2 c3 c4 c5 c6 : Value} (h : W.heap[g]? = some (.cells #[c0, c1, c2, c3, c4, c5, c6] T (0, 0))) (v0 v1 v2 v3 v4 v5 v6 : Value) :
    (((((((W.setCell ⟨g, 0, none⟩ v0).setCell ⟨g, 1, none⟩ v1).setCell ⟨g, 2, none⟩ v2).setCell ⟨g, 3, none⟩ v3).setCell ⟨g, 4, none⟩ v4).setCell ⟨g, 5, none⟩ v5).setCell ⟨g, 6, none⟩ v6).heap[g]? = some (.cells #[v0, v1, v2, v3, v4, v5, v6] T (0, 0)) :=
by
  have h0 : (W.setCell ⟨g, 0, none⟩ v0).heap[g]? = some (.cells #[v0, c1, c2, c3, c4, c5, c6] T (0, 0)) := put_at h 0 v0
  have h1 : ((W.setCell ⟨g, 0, none⟩ v0).setCell ⟨g, 1, none⟩ v1).heap[g]? = some (.cells #[v0, v1, c2, c3, c4, c5, c6] T (0, 0)) := put_at h0 1 v1
  have h2 : (((W.setCell ⟨g, 0, none⟩ v0).setCell ⟨g, 1, none⟩ v1).setCell ⟨g, 2, none⟩ v2).heap[g]? = some (.cells #[v0, v1, v2, c3, c4, c5, c6] T (0, 0)) := put_at h1 2 v2
  have h3 : ((((W.setCell ⟨g, 0, none⟩ v0).setCell ⟨g, 1, none⟩ v1).setCell ⟨g, 2, none⟩ v2).setCell ⟨g, 3, none⟩ v3).heap[g]? = some (.cells #[v0, v1, v2, v3, c4, c5, c6] T (0, 0)) := put_at h2 3 v3
  have h4 : (((((W.setCell ⟨g, 0, none⟩ v0).setCell ⟨g, 1, none⟩ v1).setCell ⟨g, 2, none⟩ v2).setCell ⟨g, 3, none⟩ v3).setCell ⟨g, 4, none⟩ v4).heap[g]? = some (.cells #[v0, v1, v2, v3, v4, c5, c6] T (0, 0)) := put_at h3 4 v4
  have h5 : ((((((W.setCell ⟨g, 0, none⟩ v0).setCell ⟨g, 1, none⟩ v1).setCell ⟨g, 2, none⟩ v2).setCell ⟨g, 3, none⟩ v3).setCell ⟨g, 4, none⟩ v4).setCell ⟨g, 5, none⟩ v5).heap[g]? = some (.cells #[v0, v1, v2, v3, v4, v5, c6] T (0, 0)) := put_at h4 5 v5
  have h6 : (((((((W.setCell ⟨g, 0, none⟩ v0).setCell ⟨g, 1, none⟩ v1).setCell ⟨g, 2, none⟩ v2).setCell ⟨g, 3, none⟩ v3).setCell ⟨g, 4, none⟩ v4).setCell ⟨g, 5, none⟩ v5).setCell ⟨g, 6, none⟩ v6).heap[g]? = some (.cells #[v0, v1, v2, v3, v4, v5, v6] T (0, 0)) := put_at h5 6 v6
  exact h6
set_option maxHeartbeats 4000000 in
theorem row1_any (k : ByteArray) (w : World) : Calls Tryz.prog 24 #[.string k] w fun e w' => ((∃ i, ∃ h : i < rowsO.length, rowsO[i].name = k ∧ ∃ b, w.heap.size ≤ b ∧ e = .returned (.tuple #[docA (wpO b i) rowsO[i], .bool true]) ∧ DocRows w' b) ∨ ((∀ r ∈ rowsO, r.name ≠ k) ∧ e = .returned (.tuple #[.agg #[.string ⟨#[]⟩, .int .i64 0, .int .u8 0, .int .i64 0, .int .i64 0, .slice none 0 0, .string ⟨#[]⟩], .bool false]))) ∧ Below w.heap.size w w' := by
  have HR := hidK (fun W => rows_any W)
  obtain ⟨W0, hW0⟩ : ∃ W, w.alloc (.cells #[.string ⟨#[]⟩, .int .i64 0, .int .u8 0, .int .i64 0, .int .i64 0, .slice none 0 0, .string ⟨#[]⟩] 56) = W := ⟨_, rfl⟩
  obtain ⟨Q, hQ⟩ : ∃ Q, w.heap.size = Q := ⟨_, rfl⟩
  have ha0 : W0.heap[Q]? = some (.cells #[.string ⟨#[]⟩, .int .i64 0, .int .u8 0, .int .i64 0, .int .i64 0, .slice none 0 0, .string ⟨#[]⟩] 56 (0, 0)) := by rw [← hW0, ← hQ]; exact heap_alloc_new w _
  have hb0 : Below w.heap.size w W0 := by rw [← hW0]; exact (Below.refl _ _).alloc (Nat.le_refl _) _
  have HA0 := hidK ha0
  have HB0 := hidK hb0
  have HWe := hidK hW0
  have HQe := hidK hQ
  clear ha0 hb0 hQ
  go_enter Tryz.func24, Tryz.ntmps24
  go_wp2_with fail
  rw [HQe.out]
  refine (HR.out _).mono ?_
  rintro e w1 ⟨rfl, hd, hb⟩
  obtain ⟨b, hbe⟩ : ∃ b, W0.heap.size = b := ⟨_, rfl⟩
  rw [hbe] at hd ⊢
  have hQb : Q < b := by rw [← hbe]; exact lt_block HA0.out
  have hq1 : w1.heap[Q]? = _ := (hb.block Q (lt_block HA0.out)).trans HA0.out
  have hbw : Below w.heap.size w w1 := HB0.out.trans (hb.mono HB0.out.size)
  have HD := hidK hd
  have HB := hidK hbw
  have HQ1 := hidK hq1
  have HQb := hidK hQb
  have y0 := cell_at hq1 0
  have y1 := cell_at hq1 1
  have y2 := cell_at hq1 2
  have y3 := cell_at hq1 3
  have y4 := cell_at hq1 4
  have y5 := cell_at hq1 5
  have y6 := cell_at hq1 6
  have z0 := free_at hq1 0
  have z1 := free_at hq1 1
  have z2 := free_at hq1 2
  have z3 := free_at hq1 3
  have z4 := free_at hq1 4
  have z5 := free_at hq1 5
  have z6 := free_at hq1 6
  clear hd hb hbw hq1 hQb HR hW0 hbe
  go_wp2_with fail
  go_loop [5] (fun i => ∃ n : Nat, n ≤ 22 ∧ i = .int .i64 n ∧ Hid (∀ j (hj : j < rowsO.length), j < n → rowsO[j].name ≠ k)) (fun i => 22 - (intOf i).toNat)
  case atStart => exact ⟨0, Nat.zero_le _, rfl, fun j _ h => absurd h (Nat.not_lt_zero _)⟩
  case round =>
    obtain ⟨n, hn, rfl, HN⟩ := hrel
    by_cases hlt : n < 22
    · have hi : n < rowsO.length := by rw [rows_22]; exact hlt
      obtain ⟨r, hr⟩ : ∃ r, rowsO[n]'hi = r := ⟨_, rfl⟩
      have hcell : ∀ c, c < 7 → w1.cell? ⟨b + 1 + 1 + 1, n * 7 + c, none⟩ = (docV (wpO b n) r)[c]? := fun c hc => by rw [← hr]; exact HD.out.cell hi hc
      obtain ⟨kb, lo, hi', ad, m, hu⟩ := docV_is (wpO b n) r
      have g0 := hcell 0 (by decide)
      have g1 := hcell 1 (by decide)
      have g2 := hcell 2 (by decide)
      have g3 := hcell 3 (by decide)
      have g4 := hcell 4 (by decide)
      have g5 := hcell 5 (by decide)
      have g6 := hcell 6 (by decide)
      rw [hu] at g0 g1 g2 g3 g4 g5 g6
      simp only [List.getElem?_cons_zero, List.getElem?_cons_succ, Nat.add_zero] at g0 g1 g2 g3 g4 g5 g6
      have HU : Hid (docA (wpO b n) r = .agg #[.string r.name, .int .i64 r.scope, .int .u8 kb, .int .i64 lo, .int .i64 hi', .slice ad m m, .string r.first]) := by
        show _ = _
        unfold docA
        rw [hu]
      have HR : Hid (∀ h : n < rowsO.length, rowsO[n]'h = r) := fun _ => hr
      obtain ⟨nm, hnm⟩ : ∃ x, r.name = x := ⟨_, rfl⟩
      obtain ⟨sc, hsc⟩ : ∃ x, r.scope = x := ⟨_, rfl⟩
      obtain ⟨fi, hfi⟩ : ∃ x, r.first = x := ⟨_, rfl⟩
      have HNm : Hid (∀ h : n < rowsO.length, (rowsO[n]'h).name = nm) := fun _ => by rw [hr]; exact hnm
      rw [hnm] at g0 HU
      rw [hsc] at g1 HU
      rw [hfi] at g6 HU
      have hin : (n : Int) < 22 := by omega
      clear hu hnm hsc hfi hcell hr
      by_cases he : nm = k
      · have HEq := hidK he
        have he1 : (nm.toList == k.toList) = true := by rw [he]; simp
        clear he
        go_wp2_with fail
        refine ret_cellO rfl rfl (seven_set HQ1.out _ _ _ _ _ _ _) Tryz.underlying56 rfl infoRow rfl ?_
        refine ⟨.inl ⟨n, hi, (HNm.out hi).trans HEq.out, b, by rw [HQe.out]; exact Nat.le_of_lt HQb.out, by rw [HR.out hi, HU.out]; rfl, ?_⟩, ?_⟩
        · exact ((((((HD.out.put HQb.out 0 _).put HQb.out 1 _).put HQb.out 2 _).put HQb.out 3 _).put HQb.out 4 _).put HQb.out 5 _).put HQb.out 6 _
        · have hge : w.heap.size ≤ Q := Nat.le_of_eq HQe.out
          exact ((((((HB.out.setCell hge _).setCell hge _).setCell hge _).setCell hge _).setCell hge _).setCell hge _).setCell hge _
      · have he1 : (nm.toList == k.toList) = false := by
          cases e : (nm.toList == k.toList)
          · rfl
          · exact absurd (Go.WideShapes.bytes_inj (by have := eq_of_beq e; rwa [Lib.toList_data, Lib.toList_data] at this)) he
        have HNe : Hid (nm ≠ k) := he
        clear he
        go_wp2_with fail
        go_round
        case rel =>
          refine ⟨n + 1, by omega, by go_num, fun j hj h => ?_⟩
          by_cases hjn : j = n
          · subst hjn; rw [HNm.out hj]; exact HNe.out
          · exact HN.out j hj (by omega)
        case measure => simp [intOf]; omega
    · have hin : ¬ (n : Int) < 22 := by omega
      have HNo : Hid (∀ r ∈ rowsO, r.name ≠ k) := fun r hr => by
        obtain ⟨j, hj, rfl⟩ := List.getElem_of_mem hr
        exact HN.out j hj (by rw [rows_22] at hj; omega)
      go_wp2_with fail
      refine ret_cellO rfl rfl (seven_set HQ1.out _ _ _ _ _ _ _) Tryz.underlying56 rfl infoRow rfl ?_
      have hge : w.heap.size ≤ Q := Nat.le_of_eq HQe.out
      refine And.intro (Or.inr (And.intro HNo.out rfl)) ?_
      exact ((((((HB.out.setCell hge _).setCell hge _).setCell hge _).setCell hge _).setCell hge _).setCell hge _).setCell hge _
end Go.Proofs.YtgdkpmfdpfjdjaaGreatDoor

namespace Go.Proofs.YtgdkpmfdpfjdjaaGreatDoor
open Go.RowKit
set_option linter.unusedVariables false
set_option maxRecDepth 100000

theorem docA_is (p : Nat) (r : Orow) : ∃ (kb lo hi : Int) (ad : Option Addr) (m : Nat), docA p r = .agg #[.string r.name, .int .i64 r.scope, .int .u8 kb, .int .i64 lo, .int .i64 hi, .slice ad m m, .string r.first] := by
  obtain ⟨kb, lo, hi, ad, m, h⟩ := docV_is p r
  exact ⟨kb, lo, hi, ad, m, by unfold docA; rw [h]⟩
set_option maxHeartbeats 1000000 in
theorem rScope_any (k : ByteArray) (w : World) : Calls Tryz.prog 15 #[.string k] w fun e w' => (∃ sc : Int, e = .returned (.int .i64 sc) ∧ ((∃ r ∈ rowsO, r.name = k ∧ sc = r.scope) ∨ (∀ r ∈ rowsO, r.name ≠ k) ∧ sc = 0)) ∧ Below w.heap.size w w' := by
  have HR := hidK (fun W => row1_any k W)
  go_enter Tryz.func15, Tryz.ntmps15
  go_wp2_with fail
  refine (HR.out _).mono ?_
  rintro e w1 ⟨(⟨i, hi, hn, b, hb, rfl, hd⟩ | ⟨hno, rfl⟩), hbw⟩
  · obtain ⟨kb, lo, hi', ad, m, hu⟩ := docA_is (wpO b i) rowsO[i]
    rw [hu]
    have HX : Hid (∃ r ∈ rowsO, r.name = k ∧ (rowsO[i]'hi).scope = r.scope) := ⟨_, List.getElem_mem hi, hn, rfl⟩
    have HB := hidK hbw
    obtain ⟨sc, hsc⟩ : ∃ x, (rowsO[i]'hi).scope = x := ⟨_, rfl⟩
    obtain ⟨nm, hnm⟩ : ∃ x, (rowsO[i]'hi).name = x := ⟨_, rfl⟩
    obtain ⟨fi, hfi⟩ : ∃ x, (rowsO[i]'hi).first = x := ⟨_, rfl⟩
    rw [hsc] at HX
    rw [hsc, hnm, hfi]
    obtain ⟨W2, hW2⟩ : ∃ W, w1.alloc (.cells #[.string nm, .int .i64 sc, .int .u8 kb, .int .i64 lo, .int .i64 hi', .slice ad m m, .string fi] 56) = W := ⟨_, rfl⟩
    have ha : W2.heap[w1.heap.size]? = some (.cells #[.string nm, .int .i64 sc, .int .u8 kb, .int .i64 lo, .int .i64 hi', .slice ad m m, .string fi] 56 (0, 0)) := by rw [← hW2]; exact heap_alloc_new w1 _
    have hb2 : Below w1.heap.size w1 W2 := by rw [← hW2]; exact (Below.refl _ _).alloc (Nat.le_refl _) _
    have c1 := cell_at ha 1
    have HB2 := hidK (hbw.trans (hb2.mono hbw.size))
    clear hu hn hb hd hbw hsc hnm hfi ha hb2
    go_wp2_with fail
    go_ret
    exact ⟨⟨sc, rfl, .inl HX.out⟩, HB2.out⟩
  · have HX := hidK hno
    have HB := hidK hbw
    clear hno hbw
    go_wp2_with fail
    go_ret
    exact ⟨⟨0, rfl, .inr ⟨HX.out, rfl⟩⟩, HB.out.alloc HB.out.size _⟩
end Go.Proofs.YtgdkpmfdpfjdjaaGreatDoor
