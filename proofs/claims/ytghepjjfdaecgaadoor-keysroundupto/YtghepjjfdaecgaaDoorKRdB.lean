/-
  Keys: Read.
-/
import Derived.Test.YtghepjjfdaecgaaDoorKRd
import Derived.Laws.ResultCell
namespace Go.Proofs.YtghepjjfdaecgaaDoor
open Go.RowKit
set_option linter.unusedVariables false
set_option maxRecDepth 100000

theorem ret_cell2 {P : Program} {fn : Func} {p u : Tmp} {ty : TypeId} (h : fn.results = #[.cell p ty, .tmp u]) {a : Act} {w : World} {R : Ending → World → Prop} {g : Nat} {t : TypeId} {cs : Array Value} {fr : Nat × Nat} {d : TypeDesc}
    (hp : a.tmps.getD p undef = .pointer (some ⟨g, 0, none⟩)) (hg : w.heap[g]? = some (.cells cs t fr)) (hu : P.underlying ty = some d) (hd : (match d with | .struct _ | .array _ _ => true | _ => false) = true) (hi : (P.info? ty).map (·.size) = some cs.size)
    (hdf : a.defers = []) (hR : R (.returned (.tuple #[.agg cs, a.tmps.getD u undef])) w) : bodyPost P fn R .ret a w := by
  refine bodyPost_ret ?_ hdf hR
  rw [results_cell_tmp h, hp]
  have h1 : (asAddr (.pointer (some ⟨g, 0, none⟩))).run P w = .ok ⟨g, 0, none⟩ w := rfl
  rw [h1]
  simp only [Result.andThen]
  rw [run_loadVar_row w g t ty cs fr d hg hu hd hi]
/-- What Read tells. -/
def rdV (l : List UInt8) : Value := match readF l with
  | some k => .tuple #[.agg #[.int .i64 k.1, .int .i64 k.2], .int .i64 0]
  | none => .tuple #[.agg #[.int .i64 0, .int .i64 0], .int .i64 210]
/-- The two blocks: what is told, what is read. -/
structure Rd (w W : World) (Z K : Nat) (m : Int) : Prop where
  below : Below w.heap.size w W
  z : W.heap[Z]? = some (.cells #[.int .i64 0, .int .i64 0] 30 (0, 0))
  k : W.heap[K]? = some (.cells #[.int .i64 0, .int .i64 m] 30 (0, 0))
  zk : w.heap.size ≤ Z ∧ Z < K
theorem Rd.more {w W W' : World} {Z K : Nat} {m : Int} (h : Rd w W Z K m) (hb : Below W.heap.size W W') : Rd w W' Z K m :=
  ⟨below_step h.below hb, (hb.block Z (lt_block h.z)).trans h.z, (hb.block K (lt_block h.k)).trans h.k, h.zk⟩
theorem Rd.add {w W : World} {Z K : Nat} {m : Int} (h : Rd w W Z K m) (n : Int) : Rd w (W.setCell ⟨K, 1, none⟩ (.int .i64 n)) Z K n :=
  ⟨h.below.setCell (p := ⟨K, 1, none⟩) (by have := h.zk; simp only; omega) _, put_other h.z (by have := h.zk; omega) _ _, put_at h.k 1 _, h.zk⟩
theorem mdF_at : ∀ (r : List (Int × List UInt8)) (l : List UInt8) (m : Int) (a : Int) (t : List UInt8), mdF ((a, t) :: r) l m = if t.isPrefixOf l then mdF r (l.drop t.length) (m + a) else mdF r l m := fun _ _ _ _ _ => rfl
set_option maxHeartbeats 8000000 in
theorem read_any (l : List UInt8) (hl : l.length ≤ 140737488355328) {w : World} (hT : Tabs w) : Calls Tryd.prog 18 #[.string (str l)] w fun r w' => r = .returned (rdV l) ∧ Below w.heap.size w w' := by
  obtain ⟨V, hV⟩ : ∃ V, (w.alloc (.cells #[.int .i64 0, .int .i64 0] 30)).alloc (.cells #[.int .i64 0, .int .i64 0] 30) = V := ⟨_, rfl⟩
  obtain ⟨Z, hZ⟩ : ∃ Z, w.heap.size = Z := ⟨_, rfl⟩
  have hrd : Rd w V Z (Z + 1) 0 := by
    refine ⟨?_, ?_, ?_, by omega⟩
    · rw [← hV]; exact ((Below.refl _ _).alloc (Nat.le_refl _) _).alloc (by simp) _
    · rw [← hV, ← hZ]; exact alloc_at (heap_alloc_new w _) _
    · rw [← hV, ← hZ]
      have := heap_alloc_new (w.alloc (.cells #[.int .i64 0, .int .i64 0] 30)) (.cells #[.int .i64 0, .int .i64 0] 30)
      simpa using this
  obtain ⟨cs, hcs⟩ : ∃ cs, mdCs = cs := ⟨_, rfl⟩
  have HC : Hid (V.rangeAt 1 0 cs) := by rw [← hcs]; exact (hT.below hrd.below).md
  have HHi : Hid ((Tryd.prog.info? 70).map (·.size) = some cs.length) := by rw [← hcs]; exact md_info
  have HAt : Hid (∀ k : Nat, k < 3 → ∃ a b, mdT[k]? = some (a, b) ∧ ∀ W : World, (Instr.index 70 (.agg cs.toArray) (.int .i64 (k : Int))).run Tryd.prog W = .ok (.agg #[.int .i64 a, .string (str b)]) W) := fun k hk => by rw [← hcs]; exact md_at ⟨k, hk⟩
  have HTb := hidK (fun X (hX : Below w.heap.size w X) => hT.below hX)
  obtain ⟨R, hR⟩ : ∃ R, rdV l = R := ⟨_, rfl⟩
  have HR := hidK hR
  rw [hR]
  have HRd := hidK hrd
  have HL := hidK hl
  have HZ := hidK hZ
  clear hT hcs hR hrd hl
  go_enter Tryd.func18, Tryd.ntmps18
  go_wp2_with (refine wpList_load_mid rfl 70 (.global 1) rfl 1 0 rfl cs _ HC.out Tryd.underlying70 rfl HHi.out ?_)
  go_loopw [10, 0] (fun v nv wr => ∃ (i : Nat) (x : List UInt8) (m : Int), i ≤ 3 ∧ v = .int .i64 i ∧ nv = .string (str x) ∧ Hid (Rd w wr Z (Z + 1) m) ∧ Hid (mdF (mdT.drop i) x m = mdF mdT l 0 ∧ x.length ≤ l.length ∧ 0 ≤ m ∧ m ≤ 4 * i)) (fun v _ _ => 3 - (intOf v).toNat)
  case atStart => exact ⟨0, l, 0, Nat.zero_le _, rfl, rfl, HRd, ⟨rfl, Nat.le_refl _, Int.le_refl _, Int.le_refl _⟩⟩
  case round =>
    obtain ⟨i, x, m, hi, rfl, rfl, HM, HX⟩ := hrel
    by_cases hlt : i < 3
    · obtain ⟨a, b, t1, t2⟩ := HAt.out i hlt
      have hdr : mdT.drop i = (a, b) :: mdT.drop (i + 1) := by
        obtain ⟨h1, h2⟩ := List.getElem?_eq_some_iff.1 t1
        rw [List.drop_eq_getElem_cons h1, h2]
      have ha : 1 ≤ a ∧ a ≤ 4 := by
        have hm : (a, b) ∈ mdT := List.mem_of_getElem? t1
        simp only [mdT, List.mem_cons, List.not_mem_nil, or_false, Prod.mk.injEq] at hm
        omega
      have HCp := hidK (cutPre_any x b (Nat.le_trans HX.out.2.1 HL.out))
      have hst := HX.out.1
      rw [hdr, mdF_at] at hst
      have HSt := hidK hst
      have hz : (i : Int) < 3 := by omega
      have hmb := HX.out.2.2
      obtain ⟨sb, hsb⟩ : ∃ z, str b = z := ⟨_, rfl⟩
      rw [hsb] at t2 HCp
      obtain ⟨Y, hY⟩ : ∃ Y, wr.alloc (.cells #[.int .i64 a, .string sb] 69) = Y := ⟨_, rfl⟩
      obtain ⟨Q, hQ⟩ : ∃ Q, wr.heap.size = Q := ⟨_, rfl⟩
      have hrY := HM.out.more (W' := Y) (by rw [← hY]; exact (Below.refl _ _).alloc (Nat.le_refl _) _)
      have hqb : Y.heap[Q]? = some (.cells #[.int .i64 a, .string sb] 69 (0, 0)) := by rw [← hY, ← hQ]; exact heap_alloc_new wr _
      have q0 : Y.cell? ⟨Q, 0, none⟩ = some (.int .i64 a) := cell_at hqb 0
      have q1 : Y.cell? ⟨Q, 1, none⟩ = some (.string sb) := cell_at hqb 1
      have q2 : Y.cell? ⟨Z + 1, 1, none⟩ = some (.int .i64 m) := cell_at hrY.k 1
      have q3 : Y.frozen? ⟨Z + 1, 1, none⟩ = false := free_at hrY.k 1
      have HY2 := hidK hrY
      obtain ⟨X, hXs⟩ : ∃ X, str x = X := ⟨_, rfl⟩
      rw [hXs] at HCp ⊢
      have HXs := hidK hXs
      have HA := hidK (And.intro ha hmb)
      have hw : IntKind.i64.wrap (m + a) = m + a := by
        have := IntKind.wrap_i64 (m + a)
        omega
      clear t1 hdr hst hsb hrY hqb hXs ha hmb
      cases hpr : b.isPrefixOf x with
      | true =>
        have hcp : cpF x b = (x.drop b.length, true) := by unfold cpF; rw [if_pos hpr]
        rw [hcp] at HCp
        have HS2 : Hid (mdF (mdT.drop (i + 1)) (x.drop b.length) (m + a) = mdF mdT l 0) := by
          have h := HSt.out
          rw [if_pos hpr] at h
          exact h
        have HLn : Hid ((x.drop b.length).length ≤ l.length) := by
          have := HX.out.2.1
          show _ ≤ _
          rw [List.length_drop]; omega
        have HAd := hidK (HY2.out.add (m + a))
        clear hcp hpr
        go_wp2_with (go_at_call 38; refine (HCp.out _).mono ?_; rintro e w5 ⟨rfl, rfl⟩)
        go_roundw
        case rel => exact ⟨i + 1, _, m + a, by omega, by first | rfl | go_num, rfl, HAd, ⟨HS2.out, HLn.out, by have := HA.out; omega, by have := HA.out; omega⟩⟩
        case measure => simp [intOf]; omega
      | false =>
        have hcp : cpF x b = (x, false) := by unfold cpF; rw [if_neg (by simp [hpr])]
        rw [hcp] at HCp
        have HS2 : Hid (mdF (mdT.drop (i + 1)) x m = mdF mdT l 0) := by
          have h := HSt.out
          rw [if_neg (by simp [hpr])] at h
          exact h
        clear hcp hpr
        go_wp2_with (go_at_call 38; refine (HCp.out _).mono ?_; rintro e w5 ⟨rfl, rfl⟩)
        go_roundw
        case rel => exact ⟨i + 1, x, m, by omega, by first | rfl | go_num, by rw [HXs.out], HY2, ⟨HS2.out, HX.out.2.1, HX.out.2.2.1, by have := HX.out.2.2.2; omega⟩⟩
        case measure => simp [intOf]; omega
    · have hi3 : i = 3 := by omega
      subst hi3
      have hmd : mdF mdT l 0 = (x, m) := HX.out.1.symm
      have HBc := hidK (bareCode_any x (Nat.le_trans HX.out.2.1 HL.out) (HTb.out _ HM.out.below))
      obtain ⟨c, hc⟩ : ∃ c, bcF x = c := ⟨_, rfl⟩
      rw [hc] at HBc
      have hrf : readF l = if validB c m then some (c, m) else none := by unfold readF; rw [hmd, hc]
      have HRf := hidK hrf
      have HVa := hidK (valid_any c m)
      obtain ⟨X, hXs⟩ : ∃ X, str x = X := ⟨_, rfl⟩
      rw [hXs] at HBc ⊢
      clear hmd hc hrf hXs
      go_wp2_with fail
      refine HBc.out.mono ?_
      rintro e w5 ⟨rfl, hb5⟩
      have hr5 := HM.out.more hb5
      have a0 : w5.cell? ⟨Z + 1, 0, none⟩ = some (.int .i64 0) := cell_at hr5.k 0
      have a1 : w5.frozen? ⟨Z + 1, 0, none⟩ = false := free_at hr5.k 0
      obtain ⟨U, hU⟩ : ∃ U, w5.setCell ⟨Z + 1, 0, none⟩ (.int .i64 c) = U := ⟨_, rfl⟩
      have hku : U.heap[Z + 1]? = some (.cells #[.int .i64 c, .int .i64 m] 30 (0, 0)) := by rw [← hU]; exact put_at hr5.k 0 _
      have hzu : U.heap[Z]? = some (.cells #[.int .i64 0, .int .i64 0] 30 (0, 0)) := by rw [← hU]; exact put_other hr5.z (by omega) _ _
      have hbu : Below w.heap.size w U := by rw [← hU]; exact hr5.below.setCell (p := ⟨Z + 1, 0, none⟩) (by have := hr5.zk; simp only; omega) _
      have u0 : U.cell? ⟨Z + 1, 0, none⟩ = some (.int .i64 c) := cell_at hku 0
      have u1 : U.cell? ⟨Z + 1, 1, none⟩ = some (.int .i64 m) := cell_at hku 1
      have HU := hidK (And.intro hku (And.intro hzu hbu))
      clear hb5 hr5 hku hzu hbu
      go_wp2_with fail
      refine (HVa.out _).mono ?_
      rintro e w6 ⟨rfl, hb6⟩
      have hk6 : w6.heap[Z + 1]? = some (.cells #[.int .i64 c, .int .i64 m] 30 (0, 0)) := (hb6.block _ (lt_block HU.out.1)).trans HU.out.1
      have hz6 : w6.heap[Z]? = some (.cells #[.int .i64 0, .int .i64 0] 30 (0, 0)) := (hb6.block _ (lt_block HU.out.2.1)).trans HU.out.2.1
      have HB6 := hidK (below_step HU.out.2.2 hb6)
      have c0 : w6.cell? ⟨Z + 1, 0, none⟩ = some (.int .i64 c) := cell_at hk6 0
      have c1 : w6.cell? ⟨Z + 1, 1, none⟩ = some (.int .i64 m) := cell_at hk6 1
      have d0 : w6.cell? ⟨Z, 0, none⟩ = some (.int .i64 0) := cell_at hz6 0
      have d1 : w6.cell? ⟨Z, 1, none⟩ = some (.int .i64 0) := cell_at hz6 1
      have e0 : w6.frozen? ⟨Z, 0, none⟩ = false := free_at hz6 0
      have e1 : w6.frozen? ⟨Z, 1, none⟩ = false := free_at hz6 1
      have HZ6 := hidK hz6
      clear hb6 hk6 hz6 u0 u1 a0 a1
      have HBz : Hid (∀ a b : Int, Below w.heap.size w ((w6.setCell ⟨Z, 0, none⟩ (.int .i64 a)).setCell ⟨Z, 1, none⟩ (.int .i64 b))) := fun a b => (HB6.out.setCell (p := ⟨Z, 0, none⟩) (by have := HZ.out; simp only; omega) _).setCell (p := ⟨Z, 1, none⟩) (by have := HZ.out; simp only; omega) _
      cases hv : validB c m with
      | true =>
        have HF : Hid (.tuple #[.agg #[.int .i64 c, .int .i64 m], .int .i64 0] = R) := by
          show _ = _
          rw [← HR.out]
          unfold rdV
          rw [HRf.out, hv, if_pos rfl]
        clear hv
        go_wp2_with fail
        refine ret_cell2 rfl rfl (cs := #[.int .i64 c, .int .i64 m]) (put_at (put_at HZ6.out 0 _) 1 _) Tryd.underlying30 rfl infoKey rfl ?_
        exact ⟨by rw [← HF.out]; rfl, by first | exact HBz.out _ _ | (rw [← HZ.out]; exact HBz.out _ _)⟩
      | false =>
        have HF : Hid (.tuple #[.agg #[.int .i64 0, .int .i64 0], .int .i64 210] = R) := by
          show _ = _
          rw [← HR.out]
          unfold rdV
          rw [HRf.out, hv, if_neg (by decide)]
        clear hv
        go_wp2_with fail
        refine ret_cell2 rfl rfl (cs := #[.int .i64 0, .int .i64 0]) (put_at (put_at HZ6.out 0 _) 1 _) Tryd.underlying30 rfl infoKey rfl ?_
        exact ⟨by rw [← HF.out]; rfl, by first | exact HBz.out _ _ | (rw [← HZ.out]; exact HBz.out _ _)⟩
end Go.Proofs.YtghepjjfdaecgaaDoor
