/-
  Layouts: the panes and the cells that stay.
  Layouts: the law of what is kept, walked (mkkee.py).
-/
import Derived.Test.YtnepemlagnnngaaCFv
import Derived.Test.YtnepemlagnnngaaCCh
import Derived.Test.YtnepemlagnnngaaCLk
import Derived.Test.YtnepemlagnnngaaCWo
import Derived.Test.YtnepemlagnnngaaCOp
namespace Go.Proofs.Ytnepemlagnnngaa
open Go.RowKit
set_option linter.unusedVariables false
set_option maxRecDepth 20000

theorem outF_id (x : Int) : ∀ (zs : List Int), x ∉ zs → outF x zs = zs
  | [], _ => rfl
  | y :: zs, h => by
    have h1 : y ≠ x := fun e => h (by simp [e])
    have h2 := outF_id x zs fun e => h (by simp [e])
    unfold outF at h2 ⊢
    rw [List.filter_cons, if_pos (by simpa using h1), h2]
theorem outF_append (x : Int) (a b : List Int) : outF x (a ++ b) = outF x a ++ outF x b := by
  unfold outF
  exact List.filter_append ..
theorem outF_mid (x : Int) (l1 l2 : List Int) (h : x ∉ l1 ++ l2) : outF x (l1 ++ x :: l2) = l1 ++ l2 := by
  have h1 : x ∉ l1 := fun e => h (List.mem_append_left _ e)
  have h2 : x ∉ l2 := fun e => h (List.mem_append_right _ e)
  rw [outF_append, outF_id x l1 h1]
  have : outF x (x :: l2) = l2 := by
    have h3 := outF_id x l2 h2
    unfold outF at h3 ⊢
    rw [List.filter_cons, if_neg (by simp), h3]
  rw [this]

theorem tellAll_appendK : ∀ (a b : List Tree) (d : Int), tellAll (a ++ b) d = tellAll a d ++ tellAll b d
  | [], b, d => rfl
  | t :: a, b, d => by
    show t.tell d ++ tellAll (a ++ b) d = (t.tell d ++ tellAll a d) ++ tellAll b d
    rw [tellAll_appendK a b d, List.append_assoc]
/-- Where a pane is cut, all other panes' cells stay. -/
theorem cutd_cells {q : Int} {c : Box → Tree} {bl : Box} {t t' : Tree} (h : Cutd q c bl t t') : t.sound = true → t.kinds → ∀ (d : Int) (x : CellV), x ∈ t.tell d → x.kind = 1 → x.p ≠ q → x ∈ t'.tell d := by
  induction h with
  | keep t _ => exact fun _ _ d x hx _ _ => hx
  | here =>
    intro _ _ d x hx _ hp
    have hx' : x ∈ [(⟨d, 1, bl.x, bl.y, bl.w, bl.h, q⟩ : CellV)] := hx
    have : x = ⟨d, 1, bl.x, bl.y, bl.w, bl.h, q⟩ := by simpa using hx'
    rw [this] at hp
    exact absurd rfl hp
  | deep b k ts i s s' hi hSs hoth ih =>
    intro hs hk d x hx hx1 hp
    unfold Tree.sound at hs
    simp only [Bool.and_eq_true, decide_eq_true_eq] at hs
    have hsd := soundAll_at ts b k i s hi hs.2.1
    simp only [Bool.and_eq_true, decide_eq_true_eq, Bool.not_eq_true'] at hsd
    have hks := kindsAll_at ts i s hi hk.2
    have hx' : x ∈ (⟨d, k, b.x, b.y, b.w, b.h, 0⟩ : CellV) :: tellAll ts (d + 1) := hx
    show x ∈ (⟨d, k, b.x, b.y, b.w, b.h, 0⟩ : CellV) :: tellAll (ts.take i ++ (flatT k s' ++ ts.drop (i + 1))) (d + 1)
    rcases List.mem_cons.1 hx' with e | hx'
    · rw [e] at hx1
      change k = 1 at hx1
      have := hk.1
      omega
    · refine List.mem_cons_of_mem _ ?_
      rw [mid_eq hi, tellAll_appendK] at hx'
      rw [tellAll_appendK, tellAll_appendK]
      rcases List.mem_append.1 hx' with h1 | h1
      · exact List.mem_append_left _ h1
      · change x ∈ s.tell (d + 1) ++ tellAll (ts.drop (i + 1)) (d + 1) at h1
        refine List.mem_append_right _ ?_
        rcases List.mem_append.1 h1 with h2 | h2
        · refine List.mem_append_left _ ?_
          cases hkd : s'.kindIs k with
          | false =>
            rw [flatT_no hkd]
            show x ∈ s'.tell (d + 1) ++ []
            rw [List.append_nil]
            exact ih hsd.1 hks (d + 1) x h2 hx1 hp
          | true =>
            cases hSs with
            | keep _ _ => rw [hsd.2.1] at hkd; cases hkd
            | here =>
              have hx3 : x ∈ [(⟨d + 1, 1, bl.x, bl.y, bl.w, bl.h, q⟩ : CellV)] := h2
              have : x = ⟨d + 1, 1, bl.x, bl.y, bl.w, bl.h, q⟩ := by simpa using hx3
              rw [this] at hp
              exact absurd rfl hp
            | deep b2 k2 ts2 i2 s2 s2' _ _ _ =>
              have : (Tree.split b2 k2 ts2).kindIs k = true := hkd
              rw [hsd.2.1] at this
              cases this
        · exact List.mem_append_right _ h2
theorem ids_one : ∀ (m : List CellV), (idsOf m).Nodup → ∀ c x, c ∈ m → x ∈ m → c.kind = 1 → x.kind = 1 → c.p = x.p → c = x
  | [], _, c, x, hc, _, _, _, _ => by cases hc
  | a :: m, hn, c, x, hc, hx, hc1, hx1, he => by
    by_cases ha : a.kind = 1
    · have e : idsOf (a :: m) = a.p :: idsOf m := by
        unfold idsOf
        rw [List.filter_cons, if_pos (by simpa using ha)]
        rfl
      rw [e] at hn
      obtain ⟨n1, n2⟩ := List.nodup_cons.1 hn
      have hin : ∀ y, y ∈ m → y.kind = 1 → y.p ∈ idsOf m := fun y hy h1 => by
        unfold idsOf
        exact List.mem_map.2 ⟨y, List.mem_filter.2 ⟨hy, by simpa using h1⟩, rfl⟩
      rcases List.mem_cons.1 hc with e1 | hc'
      · rcases List.mem_cons.1 hx with e2 | hx'
        · rw [e1, e2]
        · exact absurd (by rw [← e1, he]; exact hin x hx' hx1) n1
      · rcases List.mem_cons.1 hx with e2 | hx'
        · exact absurd (by rw [← e2, ← he]; exact hin c hc' hc1) n1
        · exact ids_one m n2 c x hc' hx' hc1 hx1 he
    · have e : idsOf (a :: m) = idsOf m := by
        unfold idsOf
        rw [List.filter_cons, if_neg (by simpa using ha)]
      rw [e] at hn
      rcases List.mem_cons.1 hc with e1 | hc'
      · exact absurd (e1 ▸ hc1) ha
      · rcases List.mem_cons.1 hx with e2 | hx'
        · exact absurd (e2 ▸ hx1) ha
        · exact ids_one m hn c x hc' hx' hc1 hx1 he
/-- What Find answers behind a Split, of every cell that there was. -/
theorem kept_find {l : List CellV} {t t' : Tree} {o : OpV} (hl : IsLay l t) (hB : BehindO o t t') (h0 : o.k = 0) (x : CellV) (hx : x ∈ l) : ∃ (i : Nat) (c : CellV) (b : Bool), FindIs (laidL t') (isPane (hasId x.p)) i c b ∧ (x.kind = 1 → x.p ≠ o.pane → b = true ∧ (laidL t')[i]? = some x) := by
  have hlay := laid_lay hB.sound hB.kinds hB.few
  have hS : (readF (laidL t')).isSome = true := by rw [lay_readF hlay]; rfl
  obtain ⟨c0, bl, hcut, _⟩ := hB.cut h0
  have hin : x.kind = 1 → x.p ≠ o.pane → x ∈ laidL t' := fun h1 h2 => cutd_cells hcut hl.sound hl.kinds 0 x (by rw [hl.tell]; exact hx) h1 h2
  rcases fc_or (laidL t') (isPane (hasId x.p)) with ⟨i, c, hc⟩ | hno
  · refine ⟨i, c, true, .inr (.inr ⟨hS, hc, rfl⟩), fun h1 h2 => ⟨rfl, ?_⟩⟩
    obtain ⟨g1, g2, _⟩ := hc
    unfold isPane hasId at g2
    simp only [Bool.and_eq_true, decide_eq_true_eq, beq_iff_eq] at g2
    have := ids_one (laidL t') (few_len hlay.few).2 c x (List.mem_of_getElem? g1) (hin h1 h2) g2.1 h1 g2.2
    rw [this] at g1
    exact g1
  · refine ⟨0, x, false, .inr (.inl ⟨hS, hno, rfl, rfl⟩), fun h1 h2 => ?_⟩
    obtain ⟨j, hj⟩ := List.getElem?_of_mem (hin h1 h2)
    have := hno j x hj
    unfold isPane hasId at this
    rw [h1] at this
    simp at this

end Go.Proofs.Ytnepemlagnnngaa

namespace Go.Proofs.Ytnepemlagnnngaa
open Go.RowKit
set_option linter.unusedVariables false
set_option maxRecDepth 100000

/-- While the lists are held against one another. -/
structure KeeS (W : World) (A Bs : List Int) (r : List CellV) (m : Value) (za zb : Option Addr) (na ca nb cb : Nat) (X : World) : Prop where
  below : Below W.heap.size W X
  a : IOwns X W.heap.size (.slice za na ca) A
  b : IOwns X W.heap.size (.slice zb nb cb) Bs
  m : CellsIn X m r
theorem KeeS.next {W : World} {A Bs : List Int} {r : List CellV} {m : Value} {za zb : Option Addr} {na ca nb cb : Nat} {X Y : World} (h : KeeS W A Bs r m za zb na ca nb cb X) (hb : Below X.heap.size X Y) : KeeS W A Bs r m za zb na ca nb cb Y := ⟨below_step h.below hb, h.a.below hb, h.b.below hb, h.m.below hb⟩

/-- The calls ahead of the comparing. -/
def KeeC (W : World) (v : Value) (A Bs : List Int) (er : Int) (r : List CellV) (o : OpV) : Prop := Calls Try.prog 10 #[] W fun e w1 => e = .returned (.bool true) ∧ Calls Try.prog 14 #[v] w1 fun e w2 => e = .returned (.int .i64 0) ∧ Below W.heap.size W w2 ∧ Calls Try.prog 16 #[v, .agg o.vals] w2 fun e w3 => ∃ m, e = .returned (.tuple #[m, .int .i64 er]) ∧ Below W.heap.size W w3 ∧ (er = 0 → Calls Try.prog 17 #[v] w3 fun e w4 => ∃ za na ca, e = .returned (.slice za na ca) ∧ A.length = na ∧ Calls Try.prog 17 #[m] w4 fun e w5 => ∃ zb nb cb, e = .returned (.slice zb nb cb) ∧ Bs.length = nb ∧ KeeS W A Bs r m za zb na ca nb cb w5)
theorem kee_pre {W : World} {v : Value} {l : List CellV} {t : Tree} (hF : readF l = some t) {o : OpV} {er : Int} {r : List CellV} (hv : CellsIn W v l) (hC : ∀ v X, CellsIn X v l → Calls Try.prog 16 #[v, .agg o.vals] X (Ans2 er r X)) : KeeC W v (panesL l) (panesL r) er r o := by
  refine (works_true W).mono ?_
  rintro e w1 ⟨rfl, hb1⟩
  have hc := check_any v l w1 (hv.below hb1)
  have h0 : checkE l = 0 := by
    unfold checkE
    rw [hF]
    rfl
  rw [h0] at hc
  refine ⟨rfl, hc.mono ?_⟩
  rintro e w2 ⟨rfl, hb2⟩
  have hB2 := below_step hb1 hb2
  refine ⟨rfl, hB2, (hC v w2 (hv.below hB2)).mono ?_⟩
  rintro e w3 ⟨m, rfl, hm, hb3⟩
  have hB3 := below_step hB2 hb3
  refine ⟨m, rfl, hB3, fun _ => (panes_any v l w3 (hv.below hB3)).mono ?_⟩
  rintro e w4 ⟨za, na, ca, rfl, ha1, ha2, hb4⟩
  have hm4 := hm.cellsIn.below hb4
  have hB4 := below_step hB3 hb4
  refine ⟨za, na, ca, rfl, ha1, (panes_any m r w4 hm4).mono ?_⟩
  rintro e w5 ⟨zb, nb, cb, rfl, hb1', hb2', hb5⟩
  exact ⟨zb, nb, cb, rfl, hb1', below_step hB4 hb5, (ha2.lower hB3.size).below hb5, hb2'.lower hB4.size, hm4.below hb5⟩

set_option maxHeartbeats 1000000 in
theorem kee_err (ok er : Int) (v : Value) (w : World) (pane kind size : Int) (bf : Bool) (id oa ob : Int) (A Bs : List Int) (r : List CellV) (he : er ≠ 0) (hPre : ∀ W, Below w.heap.size w W → KeeC W v A Bs er r ⟨ok, pane, kind, size, bf, id, oa, ob⟩) : Calls Try.prog 5 #[v, .agg #[.int .i64 ok, .int .i64 pane, .int .i64 kind, .int .i64 size, .bool bf, .int .i64 id, .int .i64 oa, .int .i64 ob]] w fun x w' => x = .returned (.bool true) ∧ Below w.heap.size w w' := by
  obtain ⟨W, hW⟩ : ∃ W, w.alloc (.cells #[.int .i64 ok, .int .i64 pane, .int .i64 kind, .int .i64 size, .bool bf, .int .i64 id, .int .i64 oa, .int .i64 ob] 40) = W := ⟨_, rfl⟩
  have hbW : Below w.heap.size w W := by rw [← hW]; exact (Below.refl _ _).alloc (Nat.le_refl _) _
  have hM : W.heap[w.heap.size]? = some (.cells #[.int .i64 ok, .int .i64 pane, .int .i64 kind, .int .i64 size, .bool bf, .int .i64 id, .int .i64 oa, .int .i64 ob] 40 (0, 0)) := by rw [← hW]; exact heap_alloc_new _ _
  have HC8 : Hid (∀ X, Below W.heap.size W X → X.cell? ⟨w.heap.size, 0, none⟩ = some (.int .i64 ok) ∧ X.cell? ⟨w.heap.size, 1, none⟩ = some (.int .i64 pane) ∧ X.cell? ⟨w.heap.size, 2, none⟩ = some (.int .i64 kind) ∧ X.cell? ⟨w.heap.size, 3, none⟩ = some (.int .i64 size) ∧ X.cell? ⟨w.heap.size, 4, none⟩ = some (.bool bf) ∧ X.cell? ⟨w.heap.size, 5, none⟩ = some (.int .i64 id) ∧ X.cell? ⟨w.heap.size, 6, none⟩ = some (.int .i64 oa) ∧ X.cell? ⟨w.heap.size, 7, none⟩ = some (.int .i64 ob)) := fun X hX => by
    have h := (hX.block _ (lt_of_block hM)).trans hM
    exact ⟨cell_atL h 0, cell_atL h 1, cell_atL h 2, cell_atL h 3, cell_atL h 4, cell_atL h 5, cell_atL h 6, cell_atL h 7⟩
  have HW0 : Hid (w.alloc (.cells #[.int .i64 ok, .int .i64 pane, .int .i64 kind, .int .i64 size, .bool bf, .int .i64 id, .int .i64 oa, .int .i64 ob] 40) = W) := hW
  have HBW : Hid (Below w.heap.size w W) := hbW
  have HPre := hiddenK (hPre W hbW)
  unfold KeeC OpV.vals at HPre
  dsimp only at HPre
  have he' : (er != 0) = true := by simpa using he
  clear hPre hW hbW hM he
  go_enter Try.func5, Try.ntmps5
  go_upto_region 1 with fail
  rw [HW0.out]
  go_wp2_with fail
  refine HPre.out.mono ?_
  rintro x w1 ⟨rfl, h1⟩
  have H1 := hiddenK h1
  clear h1 HPre
  go_wp2_with fail
  refine H1.out.mono ?_
  rintro x w2 ⟨rfl, hb2, h2⟩
  have H2 := hiddenK h2
  obtain ⟨c0, c1, c2, c3, c4, c5, c6, c7⟩ := HC8.out w2 hb2
  clear h2 H1 hb2
  go_wp2_with fail
  refine H2.out.mono ?_
  rintro x w3 ⟨m, rfl, hb3, h3⟩
  have HB3 := hiddenK hb3
  clear hb3 H2 c0 c1 c2 c3 c4 c5 c6 c7
  clear h3
  have HF : Hid (Below w.heap.size w w3) := below_step HBW.out HB3.out
  go_wp2
  go_ret
  exact ⟨rfl, HF.out⟩

set_option maxHeartbeats 1000000 in
theorem kee_none (v : Value) (l : List CellV) (w : World) (ok pane kind size : Int) (bf : Bool) (id oa ob : Int) (hv : CellsIn w v l) (hF : readF l = none) : Calls Try.prog 5 #[v, .agg #[.int .i64 ok, .int .i64 pane, .int .i64 kind, .int .i64 size, .bool bf, .int .i64 id, .int .i64 oa, .int .i64 ob]] w fun x w' => x = .returned (.bool true) ∧ Below w.heap.size w w' := by
  obtain ⟨W, hW⟩ : ∃ W, w.alloc (.cells #[.int .i64 ok, .int .i64 pane, .int .i64 kind, .int .i64 size, .bool bf, .int .i64 id, .int .i64 oa, .int .i64 ob] 40) = W := ⟨_, rfl⟩
  have hbW : Below w.heap.size w W := by rw [← hW]; exact (Below.refl _ _).alloc (Nat.le_refl _) _
  have hM : W.heap[w.heap.size]? = some (.cells #[.int .i64 ok, .int .i64 pane, .int .i64 kind, .int .i64 size, .bool bf, .int .i64 id, .int .i64 oa, .int .i64 ob] 40 (0, 0)) := by rw [← hW]; exact heap_alloc_new _ _
  have HC8 : Hid (∀ X, Below W.heap.size W X → X.cell? ⟨w.heap.size, 0, none⟩ = some (.int .i64 ok) ∧ X.cell? ⟨w.heap.size, 1, none⟩ = some (.int .i64 pane) ∧ X.cell? ⟨w.heap.size, 2, none⟩ = some (.int .i64 kind) ∧ X.cell? ⟨w.heap.size, 3, none⟩ = some (.int .i64 size) ∧ X.cell? ⟨w.heap.size, 4, none⟩ = some (.bool bf) ∧ X.cell? ⟨w.heap.size, 5, none⟩ = some (.int .i64 id) ∧ X.cell? ⟨w.heap.size, 6, none⟩ = some (.int .i64 oa) ∧ X.cell? ⟨w.heap.size, 7, none⟩ = some (.int .i64 ob)) := fun X hX => by
    have h := (hX.block _ (lt_of_block hM)).trans hM
    exact ⟨cell_atL h 0, cell_atL h 1, cell_atL h 2, cell_atL h 3, cell_atL h 4, cell_atL h 5, cell_atL h 6, cell_atL h 7⟩
  have HW0 : Hid (w.alloc (.cells #[.int .i64 ok, .int .i64 pane, .int .i64 kind, .int .i64 size, .bool bf, .int .i64 id, .int .i64 oa, .int .i64 ob] 40) = W) := hW
  have HBW : Hid (Below w.heap.size w W) := hbW
  have HWo : Hid (∀ W, Calls Try.prog 10 #[] W fun e w' => e = .returned (.bool true) ∧ Below W.heap.size W w') := works_true
  have HCk : Hid (∀ X, Below W.heap.size W X → Calls Try.prog 14 #[v] X fun e w' => e = .returned (.int .i64 40) ∧ Below X.heap.size X w') := fun X hX => by
    have hc := check_any v l X ((hv.below hbW).below hX)
    have h0 : checkE l = 40 := by
      unfold checkE
      rw [hF]
      rfl
    rw [h0] at hc
    exact hc
  clear hW hbW hM hv hF
  go_enter Try.func5, Try.ntmps5
  go_upto_region 1 with fail
  rw [HW0.out]
  go_wp2_with fail
  refine (HWo.out _).mono ?_
  rintro x w1 ⟨rfl, hb1⟩
  have HB1 := hiddenK hb1
  clear hb1
  go_wp2_with fail
  refine (HCk.out _ HB1.out).mono ?_
  rintro x w2 ⟨rfl, hb2⟩
  have HB2 := hiddenK (below_step HB1.out hb2)
  clear hb2 HB1
  go_wp2_with fail
  refine (HWo.out _).mono ?_
  rintro x w3 ⟨rfl, hb3⟩
  have HF : Hid (Below w.heap.size w w3) := below_step HBW.out (below_step HB2.out hb3)
  clear hb3 HB2
  go_wp2
  go_ret
  exact ⟨rfl, HF.out⟩

set_option maxHeartbeats 1000000 in
theorem kee_same (ok : Int) (v : Value) (w : World) (pane kind size : Int) (bf : Bool) (id oa ob : Int) (A Bs : List Int) (r : List CellV) (hk : ok ≠ 0 ∧ ok ≠ 1 ∧ ok ≠ 2 ∧ ok ≠ 6) (hAB : Bs = A) (hn : A.length ≤ 1000) (hPre : ∀ W, Below w.heap.size w W → KeeC W v A Bs 0 r ⟨ok, pane, kind, size, bf, id, oa, ob⟩) : Calls Try.prog 5 #[v, .agg #[.int .i64 ok, .int .i64 pane, .int .i64 kind, .int .i64 size, .bool bf, .int .i64 id, .int .i64 oa, .int .i64 ob]] w fun x w' => x = .returned (.bool true) ∧ Below w.heap.size w w' := by
  obtain ⟨W, hW⟩ : ∃ W, w.alloc (.cells #[.int .i64 ok, .int .i64 pane, .int .i64 kind, .int .i64 size, .bool bf, .int .i64 id, .int .i64 oa, .int .i64 ob] 40) = W := ⟨_, rfl⟩
  have hbW : Below w.heap.size w W := by rw [← hW]; exact (Below.refl _ _).alloc (Nat.le_refl _) _
  have hM : W.heap[w.heap.size]? = some (.cells #[.int .i64 ok, .int .i64 pane, .int .i64 kind, .int .i64 size, .bool bf, .int .i64 id, .int .i64 oa, .int .i64 ob] 40 (0, 0)) := by rw [← hW]; exact heap_alloc_new _ _
  have HC8 : Hid (∀ X, Below W.heap.size W X → X.cell? ⟨w.heap.size, 0, none⟩ = some (.int .i64 ok) ∧ X.cell? ⟨w.heap.size, 1, none⟩ = some (.int .i64 pane) ∧ X.cell? ⟨w.heap.size, 2, none⟩ = some (.int .i64 kind) ∧ X.cell? ⟨w.heap.size, 3, none⟩ = some (.int .i64 size) ∧ X.cell? ⟨w.heap.size, 4, none⟩ = some (.bool bf) ∧ X.cell? ⟨w.heap.size, 5, none⟩ = some (.int .i64 id) ∧ X.cell? ⟨w.heap.size, 6, none⟩ = some (.int .i64 oa) ∧ X.cell? ⟨w.heap.size, 7, none⟩ = some (.int .i64 ob)) := fun X hX => by
    have h := (hX.block _ (lt_of_block hM)).trans hM
    exact ⟨cell_atL h 0, cell_atL h 1, cell_atL h 2, cell_atL h 3, cell_atL h 4, cell_atL h 5, cell_atL h 6, cell_atL h 7⟩
  have HW0 : Hid (w.alloc (.cells #[.int .i64 ok, .int .i64 pane, .int .i64 kind, .int .i64 size, .bool bf, .int .i64 id, .int .i64 oa, .int .i64 ob] 40) = W) := hW
  have HBW : Hid (Below w.heap.size w W) := hbW
  have HPre := hiddenK (hPre W hbW)
  unfold KeeC OpV.vals at HPre
  dsimp only at HPre
  have k0 : (ok == 0) = false := by simpa using hk.1
  have k1 : (ok == 1) = false := by simpa using hk.2.1
  have k2 : (ok == 2) = false := by simpa using hk.2.2.1
  have k6 : (ok == 6) = false := by simpa using hk.2.2.2
  have HAB := hiddenK hAB
  clear hPre hW hbW hM hk hAB
  go_enter Try.func5, Try.ntmps5
  go_upto_region 1 with fail
  rw [HW0.out]
  go_wp2_with fail
  refine HPre.out.mono ?_
  rintro x w1 ⟨rfl, h1⟩
  have H1 := hiddenK h1
  clear h1 HPre
  go_wp2_with fail
  refine H1.out.mono ?_
  rintro x w2 ⟨rfl, hb2, h2⟩
  have H2 := hiddenK h2
  obtain ⟨c0, c1, c2, c3, c4, c5, c6, c7⟩ := HC8.out w2 hb2
  clear h2 H1 hb2
  go_wp2_with fail
  refine H2.out.mono ?_
  rintro x w3 ⟨m, rfl, hb3, h3⟩
  have HB3 := hiddenK hb3
  clear hb3 H2 c0 c1 c2 c3 c4 c5 c6 c7
  have H3 := hiddenK (h3 trivial)
  clear h3
  go_wp2_with fail
  refine H3.out.mono ?_
  rintro x w4 ⟨za, na, ca, rfl, hna, h4⟩
  have H4 := hiddenK h4
  have HNa := hiddenK hna
  clear h4 H3 hna
  go_wp2_with fail
  refine H4.out.mono ?_
  rintro x w5 ⟨zb, nb, cb, rfl, hnb, h5⟩
  have H5 := hiddenK h5
  have HNb := hiddenK hnb
  clear h5 H4 hnb
  obtain ⟨c0, c1, c2, c3, c4, c5, c6, c7⟩ := HC8.out w5 H5.out.below
  have HS := hiddenK (sameInts_any (.slice za na ca) (.slice zb nb cb) A _ _ w5 H5.out.a (by have := H5.out.b; rw [HAB.out] at this; exact this) (by omega))
  have HBx : Hid (Below w.heap.size w w5) := below_step HBW.out H5.out.below
  clear H5
  go_wp2_with fail
  refine HS.out.mono ?_
  rintro x w6 ⟨rfl, hb6⟩
  have HF : Hid (Below w.heap.size w w6) := below_step HBx.out hb6
  clear hb6 HS c0 c1 c2 c3 c4 c5 c6 c7
  go_wp2
  go_ret
  exact ⟨rfl, HF.out⟩

set_option maxHeartbeats 1000000 in
theorem kee_less (v : Value) (w : World) (pane kind size : Int) (bf : Bool) (id oa ob : Int) (A Bs : List Int) (r : List CellV) (hq : pane ∈ A) (hAB : outF pane A = Bs) (hn : A.length ≤ 1000) (hPre : ∀ W, Below w.heap.size w W → KeeC W v A Bs 0 r ⟨2, pane, kind, size, bf, id, oa, ob⟩) : Calls Try.prog 5 #[v, .agg #[.int .i64 2, .int .i64 pane, .int .i64 kind, .int .i64 size, .bool bf, .int .i64 id, .int .i64 oa, .int .i64 ob]] w fun x w' => x = .returned (.bool true) ∧ Below w.heap.size w w' := by
  obtain ⟨ok, hok⟩ : ∃ ok : Int, ok = 2 := ⟨_, rfl⟩
  rw [← hok] at hPre ⊢
  obtain ⟨W, hW⟩ : ∃ W, w.alloc (.cells #[.int .i64 ok, .int .i64 pane, .int .i64 kind, .int .i64 size, .bool bf, .int .i64 id, .int .i64 oa, .int .i64 ob] 40) = W := ⟨_, rfl⟩
  have hbW : Below w.heap.size w W := by rw [← hW]; exact (Below.refl _ _).alloc (Nat.le_refl _) _
  have hM : W.heap[w.heap.size]? = some (.cells #[.int .i64 ok, .int .i64 pane, .int .i64 kind, .int .i64 size, .bool bf, .int .i64 id, .int .i64 oa, .int .i64 ob] 40 (0, 0)) := by rw [← hW]; exact heap_alloc_new _ _
  have HC8 : Hid (∀ X, Below W.heap.size W X → X.cell? ⟨w.heap.size, 0, none⟩ = some (.int .i64 ok) ∧ X.cell? ⟨w.heap.size, 1, none⟩ = some (.int .i64 pane) ∧ X.cell? ⟨w.heap.size, 2, none⟩ = some (.int .i64 kind) ∧ X.cell? ⟨w.heap.size, 3, none⟩ = some (.int .i64 size) ∧ X.cell? ⟨w.heap.size, 4, none⟩ = some (.bool bf) ∧ X.cell? ⟨w.heap.size, 5, none⟩ = some (.int .i64 id) ∧ X.cell? ⟨w.heap.size, 6, none⟩ = some (.int .i64 oa) ∧ X.cell? ⟨w.heap.size, 7, none⟩ = some (.int .i64 ob)) := fun X hX => by
    have h := (hX.block _ (lt_of_block hM)).trans hM
    exact ⟨cell_atL h 0, cell_atL h 1, cell_atL h 2, cell_atL h 3, cell_atL h 4, cell_atL h 5, cell_atL h 6, cell_atL h 7⟩
  have HW0 : Hid (w.alloc (.cells #[.int .i64 ok, .int .i64 pane, .int .i64 kind, .int .i64 size, .bool bf, .int .i64 id, .int .i64 oa, .int .i64 ob] 40) = W) := hW
  have HBW : Hid (Below w.heap.size w W) := hbW
  have HPre := hiddenK (hPre W hbW)
  unfold KeeC OpV.vals at HPre
  dsimp only at HPre
  have hne : A ≠ [] := fun e => by rw [e] at hq; cases hq
  have HHa : Hid (∀ u B X, IOwns X B u A → Calls Try.prog 18 #[u, .int .i64 pane] X fun e w' => e = .returned (.bool true) ∧ X = w') := fun u B X hu => by
    have := hasL_any u A B pane X hu hn hne
    rw [decide_eq_true hq] at this
    exact this
  have HWi : Hid (∀ u B X, IOwns X B u A → Calls Try.prog 20 #[u, .int .i64 pane] X fun e w' => ∃ u, e = .returned u ∧ IOwns w' X.heap.size u Bs ∧ Below X.heap.size X w') := fun u B X hu => by
    have := withoutL_any u A B pane X hu hn hne
    rw [hAB] at this
    exact this
  have hnb : Bs.length ≤ 1000 := by
    have := outF_length pane A
    rw [hAB] at this
    omega
  subst hok
  clear hPre hW hbW hM hq hAB hne
  go_enter Try.func5, Try.ntmps5
  go_upto_region 1 with fail
  rw [HW0.out]
  go_wp2_with fail
  refine HPre.out.mono ?_
  rintro x w1 ⟨rfl, h1⟩
  have H1 := hiddenK h1
  clear h1 HPre
  go_wp2_with fail
  refine H1.out.mono ?_
  rintro x w2 ⟨rfl, hb2, h2⟩
  have H2 := hiddenK h2
  obtain ⟨c0, c1, c2, c3, c4, c5, c6, c7⟩ := HC8.out w2 hb2
  clear h2 H1 hb2
  go_wp2_with fail
  refine H2.out.mono ?_
  rintro x w3 ⟨m, rfl, hb3, h3⟩
  have HB3 := hiddenK hb3
  clear hb3 H2 c0 c1 c2 c3 c4 c5 c6 c7
  have H3 := hiddenK (h3 trivial)
  clear h3
  go_wp2_with fail
  refine H3.out.mono ?_
  rintro x w4 ⟨za, na, ca, rfl, hna, h4⟩
  have H4 := hiddenK h4
  have HNa := hiddenK hna
  clear h4 H3 hna
  go_wp2_with fail
  refine H4.out.mono ?_
  rintro x w5 ⟨zb, nb, cb, rfl, hnb, h5⟩
  have H5 := hiddenK h5
  have HNb := hiddenK hnb
  clear h5 H4 hnb
  obtain ⟨c0, c1, c2, c3, c4, c5, c6, c7⟩ := HC8.out w5 H5.out.below
  have HBx : Hid (Below w.heap.size w w5) := below_step HBW.out H5.out.below
  go_wp2_with fail
  refine (HHa.out _ _ w5 H5.out.a).mono ?_
  rintro x w9 ⟨rfl, rfl⟩
  go_wp2_with fail
  refine (HWi.out _ _ w5 H5.out.a).mono ?_
  rintro x w6 ⟨u, rfl, hu, hb6⟩
  have HS := hiddenK (sameInts_any u (.slice zb nb cb) Bs _ _ w6 hu (H5.out.b.below hb6) (by omega))
  have HB6 : Hid (Below w.heap.size w w6) := below_step HBx.out hb6
  clear hb6 hu HHa HWi H5 HBx c0 c1 c2 c3 c4 c5 c6 c7
  go_wp2_with fail
  refine HS.out.mono ?_
  rintro x w7 ⟨rfl, hb7⟩
  have HF : Hid (Below w.heap.size w w7) := below_step HB6.out hb7
  clear hb7 HS
  go_wp2
  go_ret
  exact ⟨rfl, HF.out⟩

set_option maxHeartbeats 2000000 in
theorem kee_full (v : Value) (w : World) (pane kind size : Int) (bf : Bool) (id oa ob : Int) (A Bs : List Int) (r : List CellV) (hi : id ∈ Bs) (hna : id ∉ A) (hAB : outF id Bs = A) (hA : A ≠ []) (hn : Bs.length ≤ 1000) (hPre : ∀ W, Below w.heap.size w W → KeeC W v A Bs 0 r ⟨1, pane, kind, size, bf, id, oa, ob⟩) : Calls Try.prog 5 #[v, .agg #[.int .i64 1, .int .i64 pane, .int .i64 kind, .int .i64 size, .bool bf, .int .i64 id, .int .i64 oa, .int .i64 ob]] w fun x w' => x = .returned (.bool true) ∧ Below w.heap.size w w' := by
  obtain ⟨ok, hok⟩ : ∃ ok : Int, ok = 1 := ⟨_, rfl⟩
  rw [← hok] at hPre ⊢
  obtain ⟨W, hW⟩ : ∃ W, w.alloc (.cells #[.int .i64 ok, .int .i64 pane, .int .i64 kind, .int .i64 size, .bool bf, .int .i64 id, .int .i64 oa, .int .i64 ob] 40) = W := ⟨_, rfl⟩
  have hbW : Below w.heap.size w W := by rw [← hW]; exact (Below.refl _ _).alloc (Nat.le_refl _) _
  have hM : W.heap[w.heap.size]? = some (.cells #[.int .i64 ok, .int .i64 pane, .int .i64 kind, .int .i64 size, .bool bf, .int .i64 id, .int .i64 oa, .int .i64 ob] 40 (0, 0)) := by rw [← hW]; exact heap_alloc_new _ _
  have HC8 : Hid (∀ X, Below W.heap.size W X → X.cell? ⟨w.heap.size, 0, none⟩ = some (.int .i64 ok) ∧ X.cell? ⟨w.heap.size, 1, none⟩ = some (.int .i64 pane) ∧ X.cell? ⟨w.heap.size, 2, none⟩ = some (.int .i64 kind) ∧ X.cell? ⟨w.heap.size, 3, none⟩ = some (.int .i64 size) ∧ X.cell? ⟨w.heap.size, 4, none⟩ = some (.bool bf) ∧ X.cell? ⟨w.heap.size, 5, none⟩ = some (.int .i64 id) ∧ X.cell? ⟨w.heap.size, 6, none⟩ = some (.int .i64 oa) ∧ X.cell? ⟨w.heap.size, 7, none⟩ = some (.int .i64 ob)) := fun X hX => by
    have h := (hX.block _ (lt_of_block hM)).trans hM
    exact ⟨cell_atL h 0, cell_atL h 1, cell_atL h 2, cell_atL h 3, cell_atL h 4, cell_atL h 5, cell_atL h 6, cell_atL h 7⟩
  have HW0 : Hid (w.alloc (.cells #[.int .i64 ok, .int .i64 pane, .int .i64 kind, .int .i64 size, .bool bf, .int .i64 id, .int .i64 oa, .int .i64 ob] 40) = W) := hW
  have HBW : Hid (Below w.heap.size w W) := hbW
  have HPre := hiddenK (hPre W hbW)
  unfold KeeC OpV.vals at HPre
  dsimp only at HPre
  have hne : Bs ≠ [] := fun e => by rw [e] at hi; cases hi
  have hnA : A.length ≤ 1000 := by
    have := outF_length id Bs
    rw [hAB] at this
    omega
  have HHb : Hid (∀ u B X, IOwns X B u Bs → Calls Try.prog 18 #[u, .int .i64 id] X fun e w' => e = .returned (.bool true) ∧ X = w') := fun u B X hu => by
    have := hasL_any u Bs B id X hu hn hne
    rw [decide_eq_true hi] at this
    exact this
  have HHa : Hid (∀ u B X, IOwns X B u A → Calls Try.prog 18 #[u, .int .i64 id] X fun e w' => e = .returned (.bool false) ∧ X = w') := fun u B X hu => by
    have := hasL_any u A B id X hu hnA hA
    rw [decide_eq_false hna] at this
    exact this
  have HWi : Hid (∀ u B X, IOwns X B u Bs → Calls Try.prog 20 #[u, .int .i64 id] X fun e w' => ∃ u, e = .returned u ∧ IOwns w' X.heap.size u A ∧ Below X.heap.size X w') := fun u B X hu => by
    have := withoutL_any u Bs B id X hu hn hne
    rw [hAB] at this
    exact this
  subst hok
  clear hPre hW hbW hM hi hna hAB hne hA
  go_enter Try.func5, Try.ntmps5
  go_upto_region 1 with fail
  rw [HW0.out]
  go_wp2_with fail
  refine HPre.out.mono ?_
  rintro x w1 ⟨rfl, h1⟩
  have H1 := hiddenK h1
  clear h1 HPre
  go_wp2_with fail
  refine H1.out.mono ?_
  rintro x w2 ⟨rfl, hb2, h2⟩
  have H2 := hiddenK h2
  obtain ⟨c0, c1, c2, c3, c4, c5, c6, c7⟩ := HC8.out w2 hb2
  clear h2 H1 hb2
  go_wp2_with fail
  refine H2.out.mono ?_
  rintro x w3 ⟨m, rfl, hb3, h3⟩
  have HB3 := hiddenK hb3
  clear hb3 H2 c0 c1 c2 c3 c4 c5 c6 c7
  have H3 := hiddenK (h3 trivial)
  clear h3
  go_wp2_with fail
  refine H3.out.mono ?_
  rintro x w4 ⟨za, na, ca, rfl, hna, h4⟩
  have H4 := hiddenK h4
  have HNa := hiddenK hna
  clear h4 H3 hna
  go_wp2_with fail
  refine H4.out.mono ?_
  rintro x w5 ⟨zb, nb, cb, rfl, hnb, h5⟩
  have H5 := hiddenK h5
  have HNb := hiddenK hnb
  clear h5 H4 hnb
  obtain ⟨c0, c1, c2, c3, c4, c5, c6, c7⟩ := HC8.out w5 H5.out.below
  have HBx : Hid (Below w.heap.size w w5) := below_step HBW.out H5.out.below
  go_wp2_with fail
  refine (HHb.out _ _ w5 H5.out.b).mono ?_
  rintro x w9 ⟨rfl, rfl⟩
  go_wp2_with fail
  refine (HHa.out _ _ w5 H5.out.a).mono ?_
  rintro x w9 ⟨rfl, rfl⟩
  go_wp2_with fail
  refine (HWi.out _ _ w5 H5.out.b).mono ?_
  rintro x w6 ⟨u, rfl, hu, hb6⟩
  have HS := hiddenK (sameInts_any u (.slice za na ca) A _ _ w6 hu (H5.out.a.below hb6) (by omega))
  have H6 := hiddenK (H5.out.next hb6)
  clear hb6 hu HHa HHb HWi H5 HBx c0 c1 c2 c3 c4 c5 c6 c7
  go_wp2_with fail
  refine HS.out.mono ?_
  rintro x w7 ⟨rfl, hb7⟩
  have H7 := hiddenK (H6.out.next hb7)
  clear hb7 HS H6
  obtain ⟨c0, c1, c2, c3, c4, c5, c6, c7⟩ := HC8.out w7 H7.out.below
  go_wp2_with fail
  go_loopw [11] (fun v wr => v = .int .i64 0 ∧ Hid (KeeS W A Bs r m za zb na ca nb cb wr)) (fun _ _ => 0)
  case atStart => exact ⟨rfl, H7⟩
  case round =>
    obtain ⟨rfl, HK⟩ := hrel
    have HF : Hid (Below w.heap.size w wr) := below_step HBW.out HK.out.below
    clear c0 c1 c2 c3 c4 c5 c6 c7
    obtain ⟨c0, c1, c2, c3, c4, c5, c6, c7⟩ := HC8.out wr HK.out.below
    clear HK H7
    go_wp2
    go_ret
    exact ⟨rfl, HF.out⟩

set_option maxHeartbeats 2000000 in
theorem kee_cut (v : Value) (w : World) (pane kind size : Int) (bf : Bool) (id oa ob : Int) (A Bs : List Int) (r : List CellV) (l : List CellV) (hv : CellsIn w v l) (hl1 : 1 ≤ l.length ∧ l.length ≤ 1000) (hr1 : r.length ≤ 1000) (hfind : ∀ x ∈ l, ∃ (i : Nat) (c : CellV) (b : Bool), FindIs r (isPane (hasId x.p)) i c b ∧ (x.kind = 1 → x.p ≠ pane → b = true ∧ r[i]? = some x)) (hi : id ∈ Bs) (hna : id ∉ A) (hAB : outF id Bs = A) (hA : A ≠ []) (hn : Bs.length ≤ 1000) (hPre : ∀ W, Below w.heap.size w W → KeeC W v A Bs 0 r ⟨0, pane, kind, size, bf, id, oa, ob⟩) : Calls Try.prog 5 #[v, .agg #[.int .i64 0, .int .i64 pane, .int .i64 kind, .int .i64 size, .bool bf, .int .i64 id, .int .i64 oa, .int .i64 ob]] w fun x w' => x = .returned (.bool true) ∧ Below w.heap.size w w' := by
  obtain ⟨ok, hok⟩ : ∃ ok : Int, ok = 0 := ⟨_, rfl⟩
  rw [← hok] at hPre ⊢
  obtain ⟨W, hW⟩ : ∃ W, w.alloc (.cells #[.int .i64 ok, .int .i64 pane, .int .i64 kind, .int .i64 size, .bool bf, .int .i64 id, .int .i64 oa, .int .i64 ob] 40) = W := ⟨_, rfl⟩
  have hbW : Below w.heap.size w W := by rw [← hW]; exact (Below.refl _ _).alloc (Nat.le_refl _) _
  have hM : W.heap[w.heap.size]? = some (.cells #[.int .i64 ok, .int .i64 pane, .int .i64 kind, .int .i64 size, .bool bf, .int .i64 id, .int .i64 oa, .int .i64 ob] 40 (0, 0)) := by rw [← hW]; exact heap_alloc_new _ _
  have HC8 : Hid (∀ X, Below W.heap.size W X → X.cell? ⟨w.heap.size, 0, none⟩ = some (.int .i64 ok) ∧ X.cell? ⟨w.heap.size, 1, none⟩ = some (.int .i64 pane) ∧ X.cell? ⟨w.heap.size, 2, none⟩ = some (.int .i64 kind) ∧ X.cell? ⟨w.heap.size, 3, none⟩ = some (.int .i64 size) ∧ X.cell? ⟨w.heap.size, 4, none⟩ = some (.bool bf) ∧ X.cell? ⟨w.heap.size, 5, none⟩ = some (.int .i64 id) ∧ X.cell? ⟨w.heap.size, 6, none⟩ = some (.int .i64 oa) ∧ X.cell? ⟨w.heap.size, 7, none⟩ = some (.int .i64 ob)) := fun X hX => by
    have h := (hX.block _ (lt_of_block hM)).trans hM
    exact ⟨cell_atL h 0, cell_atL h 1, cell_atL h 2, cell_atL h 3, cell_atL h 4, cell_atL h 5, cell_atL h 6, cell_atL h 7⟩
  have HW0 : Hid (w.alloc (.cells #[.int .i64 ok, .int .i64 pane, .int .i64 kind, .int .i64 size, .bool bf, .int .i64 id, .int .i64 oa, .int .i64 ob] 40) = W) := hW
  have HBW : Hid (Below w.heap.size w W) := hbW
  have HPre := hiddenK (hPre W hbW)
  unfold KeeC OpV.vals at HPre
  dsimp only at HPre
  have hne : Bs ≠ [] := fun e => by rw [e] at hi; cases hi
  have hnA : A.length ≤ 1000 := by
    have := outF_length id Bs
    rw [hAB] at this
    omega
  have HHb : Hid (∀ u B X, IOwns X B u Bs → Calls Try.prog 18 #[u, .int .i64 id] X fun e w' => e = .returned (.bool true) ∧ X = w') := fun u B X hu => by
    have := hasL_any u Bs B id X hu hn hne
    rw [decide_eq_true hi] at this
    exact this
  have HHa : Hid (∀ u B X, IOwns X B u A → Calls Try.prog 18 #[u, .int .i64 id] X fun e w' => e = .returned (.bool false) ∧ X = w') := fun u B X hu => by
    have := hasL_any u A B id X hu hnA hA
    rw [decide_eq_false hna] at this
    exact this
  have HWi : Hid (∀ u B X, IOwns X B u Bs → Calls Try.prog 20 #[u, .int .i64 id] X fun e w' => ∃ u, e = .returned u ∧ IOwns w' X.heap.size u A ∧ Below X.heap.size X w') := fun u B X hu => by
    have := withoutL_any u Bs B id X hu hn hne
    rw [hAB] at this
    exact this
  have HV : Hid (∀ X, Below W.heap.size W X → CellsIn X v l) := fun X hX => (hv.below hbW).below hX
  have HFi := hiddenK hfind
  obtain ⟨vb, voff, vcap, hvs, _, _⟩ := hv.seen (by intro e; rw [e] at hl1; simp at hl1)
  obtain ⟨n, hn'⟩ : ∃ n, l.length = n := ⟨_, rfl⟩
  rw [hn'] at hvs hl1
  have HN := hiddenK hn'
  subst hvs
  subst hok
  clear hPre hW hbW hM hi hna hAB hne hA hv hfind hn'
  go_enter Try.func5, Try.ntmps5
  go_upto_region 1 with fail
  rw [HW0.out]
  go_wp2_with fail
  refine HPre.out.mono ?_
  rintro x w1 ⟨rfl, h1⟩
  have H1 := hiddenK h1
  clear h1 HPre
  go_wp2_with fail
  refine H1.out.mono ?_
  rintro x w2 ⟨rfl, hb2, h2⟩
  have H2 := hiddenK h2
  obtain ⟨c0, c1, c2, c3, c4, c5, c6, c7⟩ := HC8.out w2 hb2
  clear h2 H1 hb2
  go_wp2_with fail
  refine H2.out.mono ?_
  rintro x w3 ⟨m, rfl, hb3, h3⟩
  have HB3 := hiddenK hb3
  clear hb3 H2 c0 c1 c2 c3 c4 c5 c6 c7
  have H3 := hiddenK (h3 trivial)
  clear h3
  go_wp2_with fail
  refine H3.out.mono ?_
  rintro x w4 ⟨za, na, ca, rfl, hna, h4⟩
  have H4 := hiddenK h4
  have HNa := hiddenK hna
  clear h4 H3 hna
  go_wp2_with fail
  refine H4.out.mono ?_
  rintro x w5 ⟨zb, nb, cb, rfl, hnb, h5⟩
  have H5 := hiddenK h5
  have HNb := hiddenK hnb
  clear h5 H4 hnb
  obtain ⟨c0, c1, c2, c3, c4, c5, c6, c7⟩ := HC8.out w5 H5.out.below
  have HBx : Hid (Below w.heap.size w w5) := below_step HBW.out H5.out.below
  go_wp2_with fail
  refine (HHb.out _ _ w5 H5.out.b).mono ?_
  rintro x w9 ⟨rfl, rfl⟩
  go_wp2_with fail
  refine (HHa.out _ _ w5 H5.out.a).mono ?_
  rintro x w9 ⟨rfl, rfl⟩
  go_wp2_with fail
  refine (HWi.out _ _ w5 H5.out.b).mono ?_
  rintro x w6 ⟨u, rfl, hu, hb6⟩
  have HS := hiddenK (sameInts_any u (.slice za na ca) A _ _ w6 hu (H5.out.a.below hb6) (by omega))
  have H6 := hiddenK (H5.out.next hb6)
  clear hb6 hu HHa HHb HWi H5 HBx c0 c1 c2 c3 c4 c5 c6 c7
  go_wp2_with fail
  refine HS.out.mono ?_
  rintro x w7 ⟨rfl, hb7⟩
  have H7 := hiddenK (H6.out.next hb7)
  clear hb7 HS H6
  obtain ⟨c0, c1, c2, c3, c4, c5, c6, c7⟩ := HC8.out w7 H7.out.below
  go_wp2_with fail
  go_loopw [11] (fun v wr => ∃ i : Nat, i ≤ n ∧ v = .int .i64 i ∧ Hid (KeeS W A Bs r m za zb na ca nb cb wr)) (fun v _ => n - (intOf v).toNat)
  case atStart => exact ⟨0, Nat.zero_le _, rfl, H7⟩
  case round =>
    obtain ⟨i, hi, rfl, HK⟩ := hrel
    clear c0 c1 c2 c3 c4 c5 c6 c7
    obtain ⟨c0, c1, c2, c3, c4, c5, c6, c7⟩ := HC8.out wr HK.out.below
    clear H7
    by_cases hlt : i < n
    · obtain ⟨x, hx⟩ : ∃ x, l[i]? = some x := ⟨_, List.getElem?_eq_getElem (by rw [HN.out]; exact hlt)⟩
      obtain ⟨fi, fc, fb, hfi, hfk⟩ := HFi.out x (List.mem_of_getElem? hx)
      have HFd := hiddenK (find_prog m r x.p fi fc fb wr HK.out.m hfi)
      have HFk := hiddenK hfk
      have HX := hiddenK hx
      have HL : Hid (∀ X, Below W.heap.size W X → X.cell? ⟨vb, voff + i * 7, none⟩ = some (.int .i64 x.depth) ∧ X.cell? ⟨vb, voff + i * 7 + 1, none⟩ = some (.int .i64 x.kind) ∧ X.cell? ⟨vb, voff + i * 7 + 2, none⟩ = some (.int .i64 x.x) ∧ X.cell? ⟨vb, voff + i * 7 + 3, none⟩ = some (.int .i64 x.y) ∧ X.cell? ⟨vb, voff + i * 7 + 4, none⟩ = some (.int .i64 x.w) ∧ X.cell? ⟨vb, voff + i * 7 + 5, none⟩ = some (.int .i64 x.h) ∧ X.cell? ⟨vb, voff + i * 7 + 6, none⟩ = some (.int .i64 x.p)) := fun X hX => by
        obtain ⟨b2, o2, c2', e2, _, k2⟩ := (HV.out X hX).seen (fun e => by have := HN.out; rw [e] at this; simp at this; omega)
        cases e2
        obtain ⟨z0, z1, z2, z3, z4, z5, z6⟩ := k2 i x HX.out
        exact ⟨z0, z1, z2, z3, z4, z5, z6⟩
      obtain ⟨q0, q1, q2, q3, q4, q5, q6⟩ := HL.out wr HK.out.below
      clear hfi hfk hx
      go_wp2_with fail
      refine HFd.out.mono ?_
      rintro e w8 ⟨rfl, hb8⟩
      have HK8 := hiddenK (HK.out.next hb8)
      clear hb8 HFd q0 q1 q2 q3 q4 q5 q6 HK
      obtain ⟨q0, q1, q2, q3, q4, q5, q6⟩ := HL.out w8 HK8.out.below
      clear c0 c1 c2 c3 c4 c5 c6 c7
      obtain ⟨c0, c1, c2, c3, c4, c5, c6, c7⟩ := HC8.out w8 HK8.out.below
      have hstep : ∀ Y, Hid (KeeS W A Bs r m za zb na ca nb cb Y) → ∃ j : Nat, j ≤ n ∧ (.int .i64 ((i : Int) + 1) : Value) = .int .i64 j ∧ Hid (KeeS W A Bs r m za zb na ca nb cb Y) := fun Y hY => ⟨i + 1, by omega, rfl, hY⟩
      have HStep := hiddenK hstep
      clear hstep
      by_cases hk1 : x.kind = 1
      · have hk1' : (x.kind != 1) = false := by simpa using hk1
        by_cases hp1 : x.p = pane
        · have hp1' : (x.p == pane) = true := by simpa using hp1
          clear hk1 hp1 HFk
          go_wp2_with fail
          go_quiet (fail)
          go_wp2
          go_roundw
          case rel => exact ⟨i + 1, by omega, by go_num, HK8.out.next (below_drewN (Below.refl _ _) _)⟩
          case measure => simp [intOf]; omega
        · have hp1' : (x.p == pane) = false := by simpa using hp1
          obtain ⟨hfb, hri⟩ := HFk.out hk1 hp1
          subst hfb
          have hrne : r ≠ [] := fun e => by rw [e] at hri; simp at hri
          obtain ⟨mb, moff, mcap, hms, _, hmk⟩ := HK8.out.m.seen hrne
          obtain ⟨rn, hrn⟩ : ∃ k, r.length = k := ⟨_, rfl⟩
          have hfl : fi < rn := by rw [← hrn]; exact (List.getElem?_eq_some_iff.1 hri).1
          have hfl' : (fi : Int) < (rn : Int) := by omega
          rw [hrn] at hms
          subst hms
          obtain ⟨p0, p1, p2, p3, p4, p5, p6⟩ := hmk fi x hri
          have hEq : ∀ W : World, (Op.equalIn 10000 50 (.agg #[.int .i64 x.depth, .int .i64 x.kind, .int .i64 x.x, .int .i64 x.y, .int .i64 x.w, .int .i64 x.h, .int .i64 x.p]) (.agg #[.int .i64 x.depth, .int .i64 x.kind, .int .i64 x.x, .int .i64 x.y, .int .i64 x.w, .int .i64 x.h, .int .i64 x.p])).run Try.prog W = .ok true W := fun W => by
            have := eqCe x x W
            rw [(ceEq_iff x x).2 rfl] at this
            exact this
          have hfi0 : (0 : Int) ≤ (fi : Int) := by omega
          clear hk1 hp1 HFk hri hrne hmk hrn
          go_wp2_with fail
          go_quiet (fail)
          go_wp2_with fail
          go_quiet (fail)
          go_wp2
          go_roundw
          case rel => exact ⟨i + 1, by omega, by go_num, HK8.out.next (below_drewN (Below.refl _ _) _)⟩
          case measure => simp [intOf]; omega
      · have hk1' : (x.kind != 1) = true := by simpa using hk1
        clear hk1 HFk
        go_wp2_with fail
        go_quiet (fail)
        go_wp2
        go_roundw
        case rel => exact ⟨i + 1, by omega, by go_num, HK8.out.next (below_drewN (Below.refl _ _) _)⟩
        case measure => simp [intOf]; omega
    · have HF : Hid (Below w.heap.size w wr) := below_step HBW.out HK.out.below
      have hin : i = n := by omega
      subst hin
      clear HK
      go_wp2
      go_ret
      exact ⟨rfl, HF.out⟩

set_option maxHeartbeats 2000000 in
theorem kee_swap (v : Value) (w : World) (pane kind size : Int) (bf : Bool) (id oa ob : Int) (A Bs : List Int) (r : List CellV) (hAB : Bs = A.map (swapI pane oa)) (hA : A ≠ []) (hn : A.length ≤ 1000) (hPre : ∀ W, Below w.heap.size w W → KeeC W v A Bs 0 r ⟨6, pane, kind, size, bf, id, oa, ob⟩) : Calls Try.prog 5 #[v, .agg #[.int .i64 6, .int .i64 pane, .int .i64 kind, .int .i64 size, .bool bf, .int .i64 id, .int .i64 oa, .int .i64 ob]] w fun x w' => x = .returned (.bool true) ∧ Below w.heap.size w w' := by
  obtain ⟨ok, hok⟩ : ∃ ok : Int, ok = 6 := ⟨_, rfl⟩
  rw [← hok] at hPre ⊢
  obtain ⟨W, hW⟩ : ∃ W, w.alloc (.cells #[.int .i64 ok, .int .i64 pane, .int .i64 kind, .int .i64 size, .bool bf, .int .i64 id, .int .i64 oa, .int .i64 ob] 40) = W := ⟨_, rfl⟩
  have hbW : Below w.heap.size w W := by rw [← hW]; exact (Below.refl _ _).alloc (Nat.le_refl _) _
  have hM : W.heap[w.heap.size]? = some (.cells #[.int .i64 ok, .int .i64 pane, .int .i64 kind, .int .i64 size, .bool bf, .int .i64 id, .int .i64 oa, .int .i64 ob] 40 (0, 0)) := by rw [← hW]; exact heap_alloc_new _ _
  have HC8 : Hid (∀ X, Below W.heap.size W X → X.cell? ⟨w.heap.size, 0, none⟩ = some (.int .i64 ok) ∧ X.cell? ⟨w.heap.size, 1, none⟩ = some (.int .i64 pane) ∧ X.cell? ⟨w.heap.size, 2, none⟩ = some (.int .i64 kind) ∧ X.cell? ⟨w.heap.size, 3, none⟩ = some (.int .i64 size) ∧ X.cell? ⟨w.heap.size, 4, none⟩ = some (.bool bf) ∧ X.cell? ⟨w.heap.size, 5, none⟩ = some (.int .i64 id) ∧ X.cell? ⟨w.heap.size, 6, none⟩ = some (.int .i64 oa) ∧ X.cell? ⟨w.heap.size, 7, none⟩ = some (.int .i64 ob)) := fun X hX => by
    have h := (hX.block _ (lt_of_block hM)).trans hM
    exact ⟨cell_atL h 0, cell_atL h 1, cell_atL h 2, cell_atL h 3, cell_atL h 4, cell_atL h 5, cell_atL h 6, cell_atL h 7⟩
  have HW0 : Hid (w.alloc (.cells #[.int .i64 ok, .int .i64 pane, .int .i64 kind, .int .i64 size, .bool bf, .int .i64 id, .int .i64 oa, .int .i64 ob] 40) = W) := hW
  have HBW : Hid (Below w.heap.size w W) := hbW
  have HPre := hiddenK (hPre W hbW)
  unfold KeeC OpV.vals at HPre
  dsimp only at HPre
  have HAB := hiddenK hAB
  have hBl : Bs.length = A.length := by rw [hAB, List.length_map]
  obtain ⟨n, hn'⟩ : ∃ n, A.length = n := ⟨_, rfl⟩
  have HA := hiddenK hA
  rw [hn'] at hn hBl
  have HN := hiddenK hn'
  have HNB := hiddenK hBl
  subst hok
  clear hPre hW hbW hM hAB hBl hn' hA
  go_enter Try.func5, Try.ntmps5
  go_upto_region 1 with fail
  rw [HW0.out]
  go_wp2_with fail
  refine HPre.out.mono ?_
  rintro x w1 ⟨rfl, h1⟩
  have H1 := hiddenK h1
  clear h1 HPre
  go_wp2_with fail
  refine H1.out.mono ?_
  rintro x w2 ⟨rfl, hb2, h2⟩
  have H2 := hiddenK h2
  obtain ⟨c0, c1, c2, c3, c4, c5, c6, c7⟩ := HC8.out w2 hb2
  clear h2 H1 hb2
  go_wp2_with fail
  refine H2.out.mono ?_
  rintro x w3 ⟨m, rfl, hb3, h3⟩
  have HB3 := hiddenK hb3
  clear hb3 H2 c0 c1 c2 c3 c4 c5 c6 c7
  have H3 := hiddenK (h3 trivial)
  clear h3
  go_wp2_with fail
  refine H3.out.mono ?_
  rintro x w4 ⟨za, na, ca, rfl, hna, h4⟩
  have H4 := hiddenK h4
  have HNa := hiddenK hna
  clear h4 H3 hna
  go_wp2_with fail
  refine H4.out.mono ?_
  rintro x w5 ⟨zb, nb, cb, rfl, hnb, h5⟩
  have H5 := hiddenK h5
  have HNb := hiddenK hnb
  clear h5 H4 hnb
  obtain ⟨c0, c1, c2, c3, c4, c5, c6, c7⟩ := HC8.out w5 H5.out.below
  obtain ⟨ga, ca', ea, ha⟩ : ∃ ga c', (.slice za na ca : Value) = .slice (some ⟨ga, 0, none⟩) n c' ∧ ∀ (j : Nat) y, A[j]? = some y → w5.cell? ⟨ga, j, none⟩ = some (.int .i64 y) := by
    rcases H5.out.a.at_ with ⟨_, e⟩ | ⟨g, cap, e, hc⟩
    · exact absurd e HA.out
    · exact ⟨g, cap, by rw [e, HN.out], hc⟩
  obtain ⟨gb, cb', eb, hbc⟩ : ∃ gb c', (.slice zb nb cb : Value) = .slice (some ⟨gb, 0, none⟩) n c' ∧ ∀ (j : Nat) y, Bs[j]? = some y → w5.cell? ⟨gb, j, none⟩ = some (.int .i64 y) := by
    rcases H5.out.b.at_ with ⟨_, e⟩ | ⟨g, cap, e, hc⟩
    · have := HNB.out
      rw [e] at this
      have h2 := HN.out
      cases hA' : A with
      | nil => exact absurd hA' HA.out
      | cons a b => rw [hA'] at h2; simp at h2 this; omega
    · exact ⟨g, cap, by rw [e, HNB.out], hc⟩
  cases ea
  cases eb
  have HBx : Hid (Below w.heap.size w w5 ∧ Below W.heap.size W w5) := ⟨below_step HBW.out H5.out.below, H5.out.below⟩
  have HCa : Hid (∀ X, Below w5.heap.size w5 X → ∀ (j : Nat) y, A[j]? = some y → X.cell? ⟨ga, j, none⟩ = some (.int .i64 y) ∧ X.cell? ⟨gb, j, none⟩ = some (.int .i64 (swapI pane oa y))) := fun X hX j y hj => by
    have h1 := ha j y hj
    have h2 := hbc j (swapI pane oa y) (by rw [HAB.out, List.getElem?_map, hj]; rfl)
    exact ⟨(hX.cell (p := ⟨ga, j, none⟩) (World.block_lt_of_cell? w5 _ h1)).trans h1, (hX.cell (p := ⟨gb, j, none⟩) (World.block_lt_of_cell? w5 _ h2)).trans h2⟩
  clear ha hbc H5 HNa HNb HNB HAB HA
  go_wp2_with fail
  go_loopw [9] (fun v wr => ∃ i : Nat, i ≤ n ∧ v = .int .i64 i ∧ Hid (Below w5.heap.size w5 wr)) (fun v _ => n - (intOf v).toNat)
  case atStart => exact ⟨0, Nat.zero_le _, rfl, Below.refl _ _⟩
  case round =>
    obtain ⟨i, hi, rfl, HK⟩ := hrel
    clear c0 c1 c2 c3 c4 c5 c6 c7
    obtain ⟨c0, c1, c2, c3, c4, c5, c6, c7⟩ := HC8.out wr (below_step HBx.out.2 HK.out)
    by_cases hlt : i < n
    · obtain ⟨y, hy⟩ : ∃ y, A[i]? = some y := ⟨_, List.getElem?_eq_getElem (by rw [HN.out]; exact hlt)⟩
      obtain ⟨p1, p2⟩ := HCa.out wr HK.out i y hy
      clear hy
      have hge : ¬ (n : Int) ≤ (i : Int) := by omega
      unfold swapI at p2
      by_cases h1 : y = pane
      · subst h1
        rw [if_pos rfl] at p2
        go_wp2_with fail
        go_roundw
        case rel => exact ⟨i + 1, by omega, by go_num, HK⟩
        case measure => simp [intOf]; omega
      · by_cases h2 : y = oa
        · subst h2
          rw [if_neg h1, if_pos rfl] at p2
          have h1' : (y == pane) = false := by simpa using h1
          go_wp2_with fail
          go_roundw
          case rel => exact ⟨i + 1, by omega, by go_num, HK⟩
          case measure => simp [intOf]; omega
        · rw [if_neg h1, if_neg h2] at p2
          have h1' : (y == pane) = false := by simpa using h1
          have h2' : (y == oa) = false := by simpa using h2
          go_wp2_with fail
          go_roundw
          case rel => exact ⟨i + 1, by omega, by go_num, HK⟩
          case measure => simp [intOf]; omega
    · have HF : Hid (Below w.heap.size w wr) := below_step HBx.out.1 HK.out
      have hin : i = n := by omega
      subst hin
      clear HK
      go_wp2
      go_ret
      exact ⟨rfl, HF.out⟩

theorem keeps_walk (v : Value) (l : List CellV) (o : OpV) (w : World) (hv : CellsIn w v l) (ho : o.Ok) : Calls Try.prog 5 #[v, .agg o.vals] w fun x w' => x = .returned (.bool true) ∧ Below w.heap.size w w' := by
  cases hF : readF l with
  | none =>
    obtain ⟨ok, pane, kind, size, bf, id, oa, ob⟩ := o
    exact kee_none v l w ok pane kind size bf id oa ob hv hF
  | some t =>
    have hl := readF_lay hF
    obtain ⟨hf, hid⟩ := lay_few hl
    obtain ⟨er, r, hC, hA⟩ := opP_any hF o ho
    have hp1 : panesL l = t.idl := by
      unfold panesL
      rw [hF, hid]
      rfl
    have hpre : ∀ W, Below w.heap.size w W → KeeC W v (panesL l) (panesL r) er r o := fun W hW => kee_pre hF (hv.below hW) hC
    rw [hp1] at hpre
    have hn : t.idl.length ≤ 1000 := by have := (few_len hf).1; omega
    have hne : t.idl ≠ [] := fun e => by
      have h1 := size_ids t hl.kinds hl.sound
      rw [ids_told t 0 hl.kinds, ← idl_told t 0 hl.kinds, e] at h1
      simp at h1
    rcases hA with ⟨he, _⟩ | ⟨rfl, t', rfl, hB⟩
    · obtain ⟨ok, pane, kind, size, bf, id, oa, ob⟩ := o
      exact kee_err ok er v w pane kind size bf id oa ob _ _ r he hpre
    · have hlay := laid_lay hB.sound hB.kinds hB.few
      have hp2 : panesL (laidL t') = t'.idl := by
        unfold panesL
        rw [lay_readF hlay]
        have := (lay_few hlay).2
        rw [idl_movedB t' 0 0 hB.kinds] at this
        rw [this]
        rfl
      rw [hp2] at hpre
      have hn2 : t'.idl.length ≤ 1000 := by have := (few_len hB.few).1; omega
      have hl63 := hl.size
      have hr63 := hlay.size
      have hfind := fun h0 x hx => kept_find hl hB h0 x hx
      have hmore := hB.more
      have hless := hB.less
      have hswap := hB.swap
      have hother := hB.other
      have hl1 : 1 ≤ l.length := by
        have := (read_lenS (by rw [hF]; rfl : (readF l).isSome = true)).2
        cases l with
        | nil => exact absurd rfl this
        | cons a b => simp
      have hnd := (few_len hf).2
      obtain ⟨ok, pane, kind, size, bf, id, oa, ob⟩ := o
      dsimp only at hfind hmore hless hswap hother
      have hout : (ok = 0 ∨ ok = 1) → id ∈ t'.idl ∧ id ∉ t.idl ∧ outF id t'.idl = t.idl := fun h => by
        obtain ⟨g1, l1, l2, e1, e2⟩ := hmore h
        refine ⟨by rw [e2]; simp, g1, ?_⟩
        rw [e1] at g1
        rw [e2, outF_mid id l1 l2 g1, e1]
      by_cases h0 : ok = 0
      · obtain ⟨g1, g2, g3⟩ := hout (.inl h0)
        subst h0
        exact kee_cut v w pane kind size bf id oa ob _ _ _ l hv ⟨hl1, by omega⟩ (by omega) (hfind rfl) g1 g2 g3 hne hn2 hpre
      by_cases h1 : ok = 1
      · obtain ⟨g1, g2, g3⟩ := hout (.inr h1)
        subst h1
        exact kee_full v w pane kind size bf id oa ob _ _ _ g1 g2 g3 hne hn2 hpre
      by_cases h2 : ok = 2
      · obtain ⟨l1, l2, e1, e2⟩ := hless h2
        subst h2
        have hq : pane ∉ l1 ++ l2 := by
          rw [e1] at hnd
          have hp : (l1 ++ pane :: l2).Perm (pane :: (l1 ++ l2)) := by
            refine List.perm_iff_count.2 fun x => ?_
            simp only [List.count_cons, List.count_append]
            omega
          exact (List.nodup_cons.1 (hp.nodup_iff.1 hnd)).1
        exact kee_less v w pane kind size bf id oa ob _ _ _ (by rw [e1]; simp) (by rw [e1, outF_mid pane l1 l2 hq, e2]) hn hpre
      by_cases h6 : ok = 6
      · have hs := hswap h6
        subst h6
        exact kee_swap v w pane kind size bf id oa ob _ _ _ hs hne hn hpre
      · exact kee_same ok v w pane kind size bf id oa ob _ _ _ ⟨h0, h1, h2, h6⟩ (hother (by omega) h2 h6) hn hpre

end Go.Proofs.Ytnepemlagnnngaa
