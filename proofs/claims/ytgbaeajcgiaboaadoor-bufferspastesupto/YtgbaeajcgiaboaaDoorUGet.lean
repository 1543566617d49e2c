/-
  Buffers: Get, Delete, Limit, New, the program's.
-/
import Derived.Test.YtgbaeajcgiaboaaDoorUSet
import Derived.Laws.ResultCell
namespace Go.Proofs.YtgbaeajcgiaboaaDoor
open Go.RowKit
set_option linter.unusedVariables false
set_option maxRecDepth 100000

theorem ret_cell2 {P : Program} {fn : Func} {p u : Tmp} {ty : TypeId} (h : fn.results = #[.cell p ty, .tmp u]) {a : Act} {w : World} {R : Ending → World → Prop} {g : Nat} {t : TypeId} {cs : Array Value} {fr : Nat × Nat} {d : TypeDesc}
    (hp : a.tmps.getD p undef = .pointer (some ⟨g, 0, none⟩)) (hg : w.heap[g]? = some (.cells cs t fr)) (hu : P.underlying ty = some d) (hd : (match d with | .struct _ | .array _ _ => true | _ => false) = true) (hi : (P.info? ty).map (·.size) = some cs.size)
    (hdf : a.defers = []) (hR : R (.returned (.tuple #[.agg cs, a.tmps.getD u undef])) w) : bodyPost P fn R .ret a w := by
  refine bodyPost_ret ?_ hdf hR
  rw [results_cell_tmp h, hp]
  have h1 : (asAddr (.pointer (some ⟨g, 0, none⟩))).run P w = .ok ⟨g, 0, none⟩ w := rfl
  rw [h1]
  simp only [Result.andThen]
  rw [run_loadVar_row w g t ty cs fr d hg hu hd hi]
set_option maxHeartbeats 8000000 in
theorem delete_op {w : World} {b : Nat} {v : Value} {s : St} {j : Nat} (h : Bf w b v s.l (s.lim : Int) (s.c : Int)) (hG : Good s j) (name : ByteArray) :
    Calls Tryd.prog 18 #[.pointer (some ⟨b, 0, none⟩), .string name] w fun e w' => e = .returned (.int .i64 (delF s name).2) ∧ ∃ v', Bf w' b v' (delF s name).1.l ((delF s name).1.lim : Int) ((delF s name).1.c : Int) ∧ Stp w w' b v v' := by
  have HFi := hidK (find_any h name)
  have HH := hidK h
  have hlen := hG.len
  clear h hG
  cases hm : mnt name s.l with
  | none =>
    have HF : Hid (delF s name = (s, 240)) := by show _ = _; unfold delF; rw [hm]
    rw [HF.out]
    have h1 : mntI name s.l = 0 := by unfold mntI; rw [hm]
    have h2 : mntE name s.l = 240 := by unfold mntE; rw [hm]
    rw [h1, h2] at HFi
    clear hm h1 h2 hlen
    go_enter Tryd.func18, Tryd.ntmps18
    go_wp2_with fail
    refine HFi.out.mono ?_
    rintro e w1 ⟨rfl, hb1⟩
    have HB1 := hidK hb1
    clear hb1
    go_wp2_with fail
    go_ret
    exact ⟨rfl, v, HH.out.below HB1.out, Stp.behind (Stp.refl _ _ _) HB1.out⟩
  | some k =>
    have hk := mnt_lt hm
    have HF : Hid (delF s name = (⟨s.l.eraseIdx k, s.lim, s.c⟩, 0)) := by show _ = _; unfold delF; rw [hm]
    rw [HF.out]
    have h1 : mntI name s.l = (k : Int) := by unfold mntI; rw [hm]
    have h2 : mntE name s.l = 0 := by unfold mntE; rw [hm]
    rw [h1, h2] at HFi
    have HT : Hid (∀ (W : World) (V : Value), Bf W b V s.l (s.lim : Int) (s.c : Int) → Calls Tryd.prog 37 #[.pointer (some ⟨b, 0, none⟩), .int .i64 (k : Int)] W fun e w' => e = .returned (.tuple #[]) ∧ ∃ v', Bf w' b v' (s.l.eraseIdx k) (s.lim : Int) (s.c : Int) ∧ Stp W w' b V v') := fun W V hV => take_any hV k hk (by omega)
    clear hm h1 h2 hlen hk
    go_enter Tryd.func18, Tryd.ntmps18
    go_wp2_with fail
    refine HFi.out.mono ?_
    rintro e w1 ⟨rfl, hb1⟩
    have HB1 := hidK hb1
    clear hb1
    go_wp2_with fail
    refine (HT.out _ _ (HH.out.below HB1.out)).mono ?_
    rintro e w2 ⟨rfl, v2, h2, s2⟩
    have H2 := hidK h2
    have S2 := hidK (Stp.ahead HB1.out s2)
    clear h2 s2
    go_wp2_with fail
    go_ret
    exact ⟨rfl, v2, H2.out, S2.out⟩
set_option maxHeartbeats 8000000 in
theorem limit_op {w : World} {b : Nat} {v : Value} {s : St} {j : Nat} (h : Bf w b v s.l (s.lim : Int) (s.c : Int)) (hG : Good s j) (n : Int) :
    Calls Tryd.prog 20 #[.pointer (some ⟨b, 0, none⟩), .int .i64 n] w fun e w' => e = .returned (.int .i64 (limF s n).2) ∧ ∃ v', Bf w' b v' (limF s n).1.l ((limF s n).1.lim : Int) ((limF s n).1.c : Int) ∧ Stp w w' b v v' := by
  have HH := hidK h
  have hlen := hG.len
  have hlt := h.lt
  have c1 : w.cell? ⟨b, 1, none⟩ = some _ := cell_at h.hd 1
  have f1 := free_at h.hd 1
  clear h hG
  by_cases hn : n < 1 ∨ 20 < n
  · have HF : Hid (limF s n = (s, 1)) := if_pos hn
    rw [HF.out]
    go_enter Tryd.func20, Tryd.ntmps20
    go_wp2_with fail
    all_goals first | (exfalso; omega) | skip
    all_goals go_ret
    all_goals exact ⟨rfl, v, HH.out, Stp.refl _ _ _⟩
  · have HF : Hid (limF s n = (⟨trimG n.toNat s.l, n.toNat, s.c⟩, 0)) := if_neg hn
    rw [HF.out]
    obtain ⟨m, rfl⟩ : ∃ m : Nat, n = (m : Int) := ⟨n.toNat, by omega⟩
    have hm : (m : Int).toNat = m := by omega
    rw [hm]
    have n1 : ¬ (m : Int) < 1 := by omega
    have n2 : ¬ (20 : Int) < (m : Int) := by omega
    obtain ⟨w1, hw1⟩ : ∃ w1, w.setCell ⟨b, 1, none⟩ (.int .i64 (m : Int)) = w1 := ⟨_, rfl⟩
    have hb1 : Bf w1 b v s.l (m : Int) (s.c : Int) := by rw [← hw1]; exact HH.out.limit _
    have hs1 : Stp w w1 b v v := by rw [← hw1]; exact (Stp.refl w b v).cell _ 1
    have HT := hidK (trim_any hb1 (by omega) (by omega))
    have HS1 := hidK hs1
    clear hm hn hlen hb1 hs1
    go_enter Tryd.func20, Tryd.ntmps20
    go_wp2_with fail
    all_goals first | (exfalso; omega) | skip
    refine HT.out.mono ?_
    rintro e w2 ⟨rfl, v2, h2, s2⟩
    have H2 := hidK h2
    have S2 := hidK (HS1.out.trans s2 hlt)
    clear h2 s2
    go_wp2_with fail
    go_ret
    exact ⟨rfl, v2, H2.out, S2.out⟩
set_option maxHeartbeats 8000000 in
theorem new_any (w : World) : Calls Tryd.prog 8 #[] w fun e w' => e = .returned (.pointer (some ⟨w.heap.size, 0, none⟩)) ∧ Bf w' w.heap.size (.slice none 0 0) [] 20 0 ∧ Below w.heap.size w w' := by
  have HB : Hid (Bf (w.alloc (.cells #[.slice none 0 0, .int .i64 20, .int .i64 0] 45)) w.heap.size (.slice none 0 0) [] 20 0) := ⟨heap_alloc_new w _, Row.nil _ _ _⟩
  go_enter Tryd.func8, Tryd.ntmps8
  go_wp2_with fail
  go_ret
  exact ⟨rfl, HB.out, (Below.refl _ _).alloc (Nat.le_refl _) _⟩
set_option maxHeartbeats 8000000 in
theorem get_op {w : World} {b : Nat} {v : Value} {s : St} {j : Nat} (h : Bf w b v s.l (s.lim : Int) (s.c : Int)) (hG : Good s j) (name : ByteArray) :
    Calls Tryd.prog 14 #[.pointer (some ⟨b, 0, none⟩), .string name] w fun e w' => e = .returned (.tuple #[.agg #[.string (getF s name).1, .string (getF s name).2.1], .int .i64 (getF s name).2.2]) ∧ Below w.heap.size w w' := by
  have hlen := hG.len
  obtain ⟨W1, hW1⟩ : ∃ W, w.alloc (.cells #[.string ⟨#[]⟩, .string ⟨#[]⟩] 34) = W := ⟨_, rfl⟩
  obtain ⟨Q, hQ⟩ : ∃ Q, w.heap.size = Q := ⟨_, rfl⟩
  have a1 : W1.heap[Q]? = some (.cells #[.string ⟨#[]⟩, .string ⟨#[]⟩] 34 (0, 0)) := by rw [← hW1, ← hQ]; exact heap_alloc_new w _
  have b1 : Below w.heap.size w W1 := by rw [← hW1]; exact (Below.refl _ _).alloc (Nat.le_refl _) _
  have s1 : W1.heap.size = Q + 1 := by rw [← hW1, ← hQ]; simp
  have hB1 := h.below b1
  have HFi := hidK (find_any hB1 name)
  have HB := hidK hB1
  have HA := hidK a1
  have HW := hidK (And.intro b1 (And.intro hQ s1))
  clear h a1 b1 s1 hB1
  cases hm : mnt name s.l with
  | none =>
    have HF : Hid (getF s name = (emp, emp, 240)) := by show _ = _; unfold getF; rw [hm]
    rw [HF.out]
    have h1 : mntI name s.l = 0 := by unfold mntI; rw [hm]
    have h2 : mntE name s.l = 240 := by unfold mntE; rw [hm]
    rw [h1, h2] at HFi
    clear hm h1 h2 hlen hG
    go_enter Tryd.func14, Tryd.ntmps14
    go_wp2_with fail
    refine HFi.out.mono ?_
    rintro e w2 ⟨rfl, hb2⟩
    have a2 := (hb2.block Q (lt_block HA.out)).trans HA.out
    have HA2 := hidK a2
    have q0 := cell_at a2 0
    have q1 := cell_at a2 1
    have f0 := free_at a2 0
    have f1 := free_at a2 1
    have HW2 := hidK (below_step2 HW.out.1 hb2 (by have := HW.out.2.2; have := HW.out.2.1; omega))
    clear hb2 a2
    go_wp2_with fail
    refine ret_cell2 rfl rfl (two_set HA2.out (.string ⟨#[]⟩) (.string ⟨#[]⟩)) Tryd.underlying34 rfl infoBuffer rfl ⟨rfl, ?_⟩
    have := HW.out.2.1
    exact (HW2.out.setCell (by show _ ≤ Q; omega) _).setCell (by show _ ≤ Q; omega) _
  | some k =>
    have hk := mnt_lt hm
    obtain ⟨⟨xn, xt, xa⟩, hx⟩ : ∃ q, s.l[k] = q := ⟨_, rfl⟩
    have HF : Hid (getF s name = (xn, xt, 0)) := by
      show _ = _
      unfold getF
      rw [hm]
      simp only [List.getElem?_eq_getElem hk, hx, Option.map_some, Option.getD_some]
    rw [HF.out]
    have h1 : mntI name s.l = (k : Int) := by unfold mntI; rw [hm]
    have h2 : mntE name s.l = 0 := by unfold mntE; rw [hm]
    rw [h1, h2] at HFi
    have hxm : s.l[k] ∈ s.l := List.getElem_mem hk
    have e1 := hG.names _ hxm
    have e2 := hG.texts _ hxm
    rw [hx] at e1 e2
    have HC := hidK (fun W => fresh_any xn xt W (by have : xn.size ≤ 32 := e1; omega) (by have : xt.size ≤ 65536 := e2; omega))
    have HX : Hid (s.l[k]? = some ⟨xn, xt, xa⟩) := by show _ = _; rw [List.getElem?_eq_getElem hk, hx]
    have hkl : (k : Int) < (s.l.length : Int) := by omega
    obtain ⟨ad, cp, rfl, _, _, hnil, hsome⟩ := HB.out.row.shape
    have HN := hidK hnil
    have HS := hidK hsome
    clear hm h1 h2 hlen hG hxm e1 e2 hx hnil hsome
    go_enter Tryd.func14, Tryd.ntmps14
    go_wp2_with fail
    refine HFi.out.mono ?_
    rintro e w2 ⟨rfl, hb2⟩
    have a2 := (hb2.block Q (lt_block HA.out)).trans HA.out
    have HA2 := hidK a2
    have hB2 := HB.out.below hb2
    have c0 : w2.cell? ⟨b, 0, none⟩ = some _ := cell_at hB2.hd 0
    have HW2 := hidK (below_step2 HW.out.1 hb2 (by have := HW.out.2.2; have := HW.out.2.1; omega))
    cases ad with
    | none => have := (HN.out rfl).1; rw [this] at hk; simp at hk
    | some a =>
      obtain ⟨g0, o0, rfl, hob, hgl, hat⟩ := HS.out _ rfl
      have hxe : s.l[k] = ⟨xn, xt, xa⟩ := by have := HX.out; rw [List.getElem?_eq_getElem hk] at this; exact Option.some.inj this
      have r0 : w2.cell? ⟨g0, o0 + k * 3, none⟩ = some (.string xn) := hat w2 (hb2.block g0 hgl) k hk 0 _ (by rw [hxe]; rfl)
      have r1 : w2.cell? ⟨g0, o0 + k * 3 + 1, none⟩ = some (.string xt) := hat w2 (hb2.block g0 hgl) k hk 1 _ (by rw [hxe]; rfl)
      clear hb2 a2 hB2 hob hgl hat hxe
      go_wp2_with fail
      refine (HC.out _).mono ?_
      rintro e w3 ⟨rfl, hb3⟩
      have a3 := (hb3.block Q (lt_block HA2.out)).trans HA2.out
      have HA3 := hidK a3
      have q0 := cell_at a3 0
      have q1 := cell_at a3 1
      have f0 := free_at a3 0
      have f1 := free_at a3 1
      have HW3 := hidK (HW2.out.trans (hb3.mono HW2.out.size))
      clear hb3 a3 r0 r1 c0
      go_wp2_with fail
      refine ret_cell2 rfl rfl (two_set HA3.out (.string xn) (.string xt)) Tryd.underlying34 rfl infoBuffer rfl ⟨rfl, ?_⟩
      have := HW.out.2.1
      exact (HW3.out.setCell (by show _ ≤ Q; omega) _).setCell (by show _ ≤ Q; omega) _
end Go.Proofs.YtgbaeajcgiaboaaDoor
