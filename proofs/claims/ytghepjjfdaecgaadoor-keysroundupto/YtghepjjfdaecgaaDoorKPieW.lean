/-
  Keys: the law of pieces.
-/
import Derived.Test.YtghepjjfdaecgaaDoorKPieM
import Derived.Deep.RegionWith
import Derived.Deep.RegionLaw
import Derived.Deep.DeepCutAuto
namespace Go.Proofs.YtghepjjfdaecgaaDoor
open Go.RowKit
set_option linter.unusedVariables false
set_option maxRecDepth 100000

theorem Dc.aside {B d db : Nat} {w0 w3 X : World} {v vb : Value} {l : List UInt8} (h : Dc B d w0 w3 v l) (ha : Ap w3.heap.size db w3 X) (hne : db ≠ d) (hb : w3.heap[db]? = some (.cells #[vb] 54 (0, 0))) : Dc B d X X v l := by
  refine ⟨Ap.refl _ _ _, (ha.block d (lt_block h.blk) (fun e => hne e.symm)).trans h.blk, h.own.keep fun g hg => ?_, Nat.le_trans h.bw ha.size, h.lo⟩
  rcases h.own.2 with ⟨e, _⟩ | ⟨g', cap, cur, e, _, hk2, _⟩
  · rw [e] at hg; cases hg
  · rw [e] at hg; cases hg
    refine ha.block _ (lt_block hk2) (fun e => ?_)
    have e2 : g' = db := e
    rw [e2, hb] at hk2
    simp only [Option.some.injEq, Obj.cells.injEq] at hk2
    exact absurd hk2.2.1 (by decide)
theorem KeysAt.aside {B db : Nat} {w3 X : World} {v vb : Value} {ks : List (Int × Int)} (h : KeysAt w3 B v ks) (ha : Ap w3.heap.size db w3 X) (hb : w3.heap[db]? = some (.cells #[vb] 54 (0, 0))) : KeysAt X B v ks := by
  refine h.keep fun g hg => ?_
  obtain ⟨_, cur, hk⟩ := h.blk hg
  refine ha.block g (lt_block hk) (fun e => ?_)
  rw [e, hb] at hk
  simp only [Option.some.injEq, Obj.cells.injEq] at hk
  exact absurd hk.2.1 (by decide)
theorem Pi.head {w3 X : World} {db : Nat} {h : List UInt8} {L : List KL} {p : KL} (hp : Pi w3 X db h (p :: L)) : Pi w3 X db h [p] :=
  ⟨hp.dc, fun q hm => hp.rows q (by rw [List.mem_singleton.1 hm]; exact List.mem_cons_self), fun q hm => hp.young q (by rw [List.mem_singleton.1 hm]; exact List.mem_cons_self), List.pairwise_singleton _ _⟩
theorem Pi.slice {w3 X : World} {db : Nat} {h : List UInt8} {L : List KL} {v : Value} {ks : List (Int × Int)} (hp : Pi w3 X db h ((v, ks) :: L)) : ∃ a c, v = .slice a ks.length c := by
  obtain ⟨a, c, e, _⟩ := (hp.rows (v, ks) List.mem_cons_self).seeK
  exact ⟨a, c, e⟩
theorem below_any {w X Y : World} (h : Below w.heap.size w X) (k : Below X.heap.size X Y) : Below w.heap.size w Y := below_step h k
/-- A list appended to another, in a region. -/
theorem step_pi {ops : Array Oper} {o : Oper} {a : Act} {K : Act → World → Prop} {Q : Exit → Act → World → Prop} {E : Prop} {w3 : World} (X : World) {db : Nat} {h : List UInt8} {L : List KL} {v u : Value} {ks us : List (Int × Int)} (hgd : o.guard = none) (s x : Operand)
    (ho : o.op = .call { callee := .builtin .append, args := #[s, x], argTypes := #[24, 24] }) (hv : a.eval s = v) (hu : a.eval x = u) (hp : Pi w3 X db h ((v, ks) :: (u, us) :: L)) (hlen : ks.length + us.length ≤ 4000000)
    (hK : ∀ v' w', Hid (Pi w3 w' db h ((v', ks ++ us) :: (u, us) :: L)) → K (a.put o.dst v') w') : if Region.wanted o (yielded ops a.tmps) = true then Oper.wp Tryd.prog o a X K Q else E :=
  step_append_row X hgd s x 24 24 ho underKeys infoKeyE rfl hv hu (hp.rows (v, ks) List.mem_cons_self) ((hp.rows (u, us) (List.mem_cons_of_mem _ List.mem_cons_self)).seeK.src) (show (ks.length + us.length) * 16 ≤ 140737488355328 by omega) (show ks.length + us.length ≤ maxLen by unfold maxLen; omega) fun v' w' hr hg => hK v' w' (hp.append hr.out hg.out)
theorem leaf_pi {w3 X : World} {db n3 : Nat} {h : List UInt8} {L : List KL} {v : Value} {ks1 ks2 : List (Int × Int)} (hp : Pi w3 X db h ((v, [] ++ ks1 ++ ks2) :: L)) (hn : (ks1 ++ ks2).length = n3) : ∃ a c, v = .slice a n3 c ∧ Hid (Pi w3 X db h [(v, ks1 ++ ks2)]) := by
  rw [List.nil_append] at hp
  obtain ⟨a, c, e⟩ := hp.slice
  exact ⟨a, c, by rw [e, hn], hp.head⟩
/-- What was below w stands, behind both decoders. -/
theorem below_two {w W2 w3 X : World} {da db : Nat} (hda : w.heap.size = da) (hdd : db = da + 1) (b : Below w.heap.size w W2) (h2 : W2.heap.size = da + 2) (k1 : Ap W2.heap.size da W2 w3) (k2 : Ap w3.heap.size db w3 X) : Below w.heap.size w X := by
  refine ⟨k2.os.trans (k1.os.trans b.os), k2.tape.trans (k1.tape.trans b.tape), k2.output.trans (k1.output.trans b.output), Nat.le_trans b.size (Nat.le_trans k1.size k2.size), fun k hk => ?_⟩
  have := k1.size
  rw [k2.block k (by omega) (by omega), k1.block k (by omega) (by omega), b.block k hk]
theorem SeeK.at {w : World} {a : Option Addr} {n c : Nat} {ks : List (Int × Int)} (h : SeeK w (.slice a n c) ks) (k : Nat) (hk : k < ks.length) : ∃ g o, a = some ⟨g, o, none⟩ ∧ w.cell? ⟨g, o + k * 2, none⟩ = some (.int .i64 ks[k].1) ∧ w.cell? ⟨g, o + k * 2 + 1, none⟩ = some (.int .i64 ks[k].2) := by
  obtain ⟨a', c', e', hse⟩ := h
  obtain ⟨g, o, e, hcell⟩ := hse (fun e => by rw [e] at hk; simp at hk)
  have := hcell k hk
  cases e'
  exact ⟨g, o, e, this⟩
theorem suff_drop {h t : List UInt8} (e : h <:+ t) : t.drop (t.length - h.length) = h := by
  obtain ⟨r, rfl⟩ := e
  rw [List.length_append, Nat.add_sub_cancel, List.drop_left]
set_option maxHeartbeats 8000000 in
theorem pieces_try (t : List UInt8) (p : Nat) (hp : p ≤ t.length) (ht : t.length ≤ 1048576) (w : World) (hT : Tabs w) : Calls Tryd.prog 3 #[.string (str t), .int .i64 (p : Int)] w fun r w' => r = .returned (.bool true) ∧ Below w.heap.size w w' := by
  obtain ⟨S, hS⟩ : ∃ S, str t = S := ⟨_, rfl⟩
  obtain ⟨N, hN⟩ : ∃ N, t.length = N := ⟨_, rfl⟩
  have zS : S.size = N := by rw [← hS]; exact hN
  obtain ⟨S1, hS1⟩ : ∃ S1, str (t.take p) = S1 := ⟨_, rfl⟩
  obtain ⟨S2, hS2⟩ : ∃ S2, str (t.drop p) = S2 := ⟨_, rfl⟩
  rw [hN] at hp ht
  have hsl1 : ∀ X : World, (Instr.slice 9 (.string S) none (some (.int .i64 (p : Int))) none).run Tryd.prog X = .ok (.string S1) X := fun X => by rw [← hS1, ← str_takeF, hS]; exact slice_to S p (by omega) X
  have hsl2 : ∀ X : World, (Instr.slice 9 (.string S) (some (.int .i64 (p : Int))) none none).run Tryd.prog X = .ok (.string S2) X := fun X => by rw [← hS2, ← str_dropF, hS]; exact slice_from S p _ rfl (by omega) X
  obtain ⟨W1, hW1⟩ : ∃ W1, w.alloc (.cells #[.slice none 0 0] 54) = W1 := ⟨_, rfl⟩
  obtain ⟨da, hda⟩ : ∃ da, w.heap.size = da := ⟨_, rfl⟩
  obtain ⟨W2, hW2⟩ : ∃ W2, W1.alloc (.cells #[.slice none 0 0] 54) = W2 := ⟨_, rfl⟩
  obtain ⟨db, hdb⟩ : ∃ db, W1.heap.size = db := ⟨_, rfl⟩
  have hdd : db = da + 1 := by rw [← hdb, ← hW1, ← hda]; simp
  have hs2 : W2.heap.size = da + 2 := by rw [← hW2]; simp; omega
  have b1 : Below w.heap.size w W1 := by rw [← hW1]; exact (Below.refl _ _).alloc (Nat.le_refl _) _
  have b2 : Below W1.heap.size W1 W2 := by rw [← hW2]; exact (Below.refl _ _).alloc (Nat.le_refl _) _
  have hba1 : W1.heap[da]? = some (.cells #[.slice none 0 0] 54 (0, 0)) := by rw [← hW1, ← hda]; exact heap_alloc_new w _
  have hba : W2.heap[da]? = some (.cells #[.slice none 0 0] 54 (0, 0)) := (b2.block da (lt_block hba1)).trans hba1
  have hbb : W2.heap[db]? = some (.cells #[.slice none 0 0] 54 (0, 0)) := by rw [← hW2, ← hdb]; exact heap_alloc_new W1 _
  have hT2 := hT.below (below_step b1 b2)
  have h4 := nm_len2 hT
  have hdca := Dc.fresh da hT2 hba (by omega)
  have HN1 := hidK (new_any w)
  have HN2 := hidK (new_any W1)
  rw [hW1, hda] at HN1
  rw [hW2, hdb] at HN2
  have HFa := hidK (feed_any hdca hT2 (by simp) t (by omega))
  rw [hS] at HFa
  have H2 := hidK (And.intro hbb (And.intro hT2 (And.intro hdd (And.intro hs2 (And.intro h4 (below_step b1 b2))))))
  have HWd := hidK hda
  rw [hS]
  have i1 : ¬ (p : Int) < 0 := by omega
  have i2 : ¬ (N : Int) < (p : Int) := by omega
  clear hba1 hba hbb hT2 h4 hdca b1 b2 hdd hs2 hT
  go_enter Tryd.func3, Tryd.ntmps3
  go_wp2_with fail
  refine HN1.out.mono ?_
  rintro e X1 ⟨rfl, rfl⟩
  go_wp2_with fail
  refine HN2.out.mono ?_
  rintro e X2 ⟨rfl, rfl⟩
  go_wp2_with fail
  refine HFa.out.mono ?_
  rintro e w3 ⟨la, rfl, hfa⟩
  obtain ⟨aa, ca, rfl⟩ := hfa.keys.slice
  obtain ⟨va, hd3⟩ := hfa.dc
  have hT3 := hd3.tabs H2.out.2.1
  have hb3 : w3.heap[db]? = some (.cells #[.slice none 0 0] 54 (0, 0)) := (hd3.ap.block db (lt_block H2.out.1) (by have := H2.out.2.2.1; omega)).trans H2.out.1
  have hpi0 : Pi w3 w3 db [] [] := ⟨⟨_, Dc.fresh db hT3 hb3 (by have h1 := H2.out.2.2.1; have h2 := H2.out.2.2.2.2.1; have h3 := HWd.out; omega)⟩, fun p hm => (by cases hm), fun p hm => (by cases hm), List.Pairwise.nil⟩
  obtain ⟨h1, hh1⟩ : ∃ h1, (feedF [] (t.take p)).1 = h1 := ⟨_, rfl⟩
  obtain ⟨ks1, hks1⟩ : ∃ ks1, (feedF [] (t.take p)).2 = ks1 := ⟨_, rfl⟩
  obtain ⟨h2, hh2⟩ : ∃ h2, (feedF h1 (t.drop p)).1 = h2 := ⟨_, rfl⟩
  obtain ⟨ks2, hks2⟩ : ∃ ks2, (feedF h1 (t.drop p)).2 = ks2 := ⟨_, rfl⟩
  have hfeed : feedF [] t = (h2, ks1 ++ ks2) := by
    have h := feed_append (t.take p) (t.drop p) []
    rw [List.take_append_drop, hh1, hks1, hh2, hks2] at h
    exact h
  have hl1 : h1.length ≤ 255 := by rw [← hh1]; exact feed_len _ _ (by simp)
  have HP1 : Hid (∀ X L, Pi w3 X db [] L → Calls Tryd.prog 10 #[.pointer (some ⟨db, 0, none⟩), .string S1] X fun r X' => ∃ a c, r = .returned (.slice a ks1.length c) ∧ Pi w3 X' db h1 ((.slice a ks1.length c, ks1) :: L)) := fun X L hX => by
    have h := feed_pi hX hT3 (by simp) (t.take p) (by rw [List.length_take, hN]; omega)
    rw [hh1, hks1, hS1] at h
    exact h
  have HP2 : Hid (∀ X L, Pi w3 X db h1 L → Calls Tryd.prog 10 #[.pointer (some ⟨db, 0, none⟩), .string S2] X fun r X' => ∃ a c, r = .returned (.slice a ks2.length c) ∧ Pi w3 X' db h2 ((.slice a ks2.length c, ks2) :: L)) := fun X L hX => by
    have h := feed_pi hX hT3 hl1 (t.drop p) (by rw [List.length_drop, hN]; omega)
    rw [hh2, hks2, hS2] at h
    exact h
  have hn1 : ks1.length ≤ 1048576 := by rw [← hks1]; have := feed_few (t.take p) []; rw [List.length_take] at this; omega
  have hn2 : ks2.length ≤ 1048576 := by rw [← hks2]; have := feed_few (t.drop p) h1; rw [List.length_drop] at this; omega
  obtain ⟨n1, hq1⟩ : ∃ n1, ks1.length = n1 := ⟨_, rfl⟩
  obtain ⟨n2, hq2⟩ : ∃ n2, ks2.length = n2 := ⟨_, rfl⟩
  obtain ⟨n3, hq3⟩ : ∃ n3, (ks1 ++ ks2).length = n3 := ⟨_, rfl⟩
  have HQ3 := hidK hq3
  rw [hq1] at HP1 hn1
  rw [hq2] at HP2 hn2
  have HLn : Hid (ks1.length + ks2.length ≤ 4000000 ∧ ([] ++ ks1).length + ks2.length ≤ 4000000 ∧ ([] : List (Int × Int)).length + ks1.length ≤ 4000000) := ⟨by omega, by simp; omega, by simp; omega⟩
  have HPi := hidK hpi0
  have HFd := hidK hfeed
  have HNN := hidK hN
  have HSS := hidK hS
  rw [hfeed] at hfa hd3
  have HA := hidK (And.intro hfa (And.intro hd3 (And.intro hT3 hb3)))
  obtain ⟨nk, hnk⟩ : ∃ nk, (feedF [] t).2.length = nk := ⟨_, rfl⟩
  rw [hnk]
  have HNk := hidK hnk
  clear hfa hd3 hT3 hb3 hpi0 hh1 hks1 hh2 hks2 hq1 hq2 hq3 hl1 hnk HFa HN1 HN2
  go_wp2_with fail
  go_cut [8] (fun v X => ∃ a c, v = .slice a n3 c ∧ Hid (Pi w3 X db h2 [(v, ks1 ++ ks2)]))
  case first =>
    refine wp_region_any (by kernel_rfl) ?_
    try (change wpAny _ _ _ _ _ _ _ (World.drew _))
    have HPn := hidK (HPi.out.more (Below.refl _ _).drew)
    clear HPi
    have HPi := hidK HPn.out
    clear HPn
    generalize World.drew w3 = D at HPi ⊢
    refine wpAny_take (i := 1) (oi := { dst := some 34, op := Op.move (Operand.tmp 6), type := 22, pos := "law.go:140", after := #[], guard := none }) (v := ?vP1n1) rfl (by kernel_rfl) (by kernel_rfl) (by kernel_rfl) (fun _ _ _ h => h) (Or.inl ⟨by rfl, ?yP1n1⟩) ?rP1n1
    case yP1n1 => (intro w; first | (go_simp; done) | (go_simp; with_reducible rfl))
    try simp only [Act.put, List.setIfInBounds_toArray, List.set_cons_zero, List.set_cons_succ]
    refine wpAny_take (i := 2) (oi := { dst := some 35, op := Op.move (Operand.tmp 0), type := 9, pos := "law.go:140", after := #[], guard := none }) (v := ?vP2n2) rfl (by kernel_rfl) (by kernel_rfl) (by kernel_rfl) (fun _ _ _ h => h) (Or.inl ⟨by rfl, ?yP2n2⟩) ?rP2n2
    case yP2n2 => (intro w; first | (go_simp; done) | (go_simp; with_reducible rfl))
    try simp only [Act.put, List.setIfInBounds_toArray, List.set_cons_zero, List.set_cons_succ]
    refine wpAny_take (i := 3) (oi := { dst := some 36, op := Op.move (Operand.tmp 1), type := 3, pos := "law.go:140", after := #[], guard := none }) (v := ?vP3n3) rfl (by kernel_rfl) (by kernel_rfl) (by kernel_rfl) (fun _ _ _ h => h) (Or.inl ⟨by rfl, ?yP3n3⟩) ?rP3n3
    case yP3n3 => (intro w; first | (go_simp; done) | (go_simp; with_reducible rfl))
    try simp only [Act.put, List.setIfInBounds_toArray, List.set_cons_zero, List.set_cons_succ]
    refine wpAny_take (i := 4) (oi := { dst := some 37, op := Op.slice 9 (Operand.tmp 35) none (some (Operand.tmp 36)) none, type := 9, pos := "law.go:140", after := #[{ on := 2, ground := Ground.data }, { on := 3, ground := Ground.data }], guard := none }) (v := ?vP4n4) rfl (by kernel_rfl) (by kernel_rfl) (by kernel_rfl) (fun _ _ _ h => h) (Or.inl ⟨by rfl, ?yP4n4⟩) ?rP4n4
    case yP4n4 => (intro w; first | (go_simp; done) | (go_simp; with_reducible rfl))
    try simp only [Act.put, List.setIfInBounds_toArray, List.set_cons_zero, List.set_cons_succ]
    refine wpAny_take (i := 7) (oi := { dst := some 40, op := Op.move (Operand.tmp 6), type := 22, pos := "law.go:140", after := #[], guard := none }) (v := ?vP7n5) rfl (by kernel_rfl) (by kernel_rfl) (by kernel_rfl) (fun _ _ _ h => h) (Or.inl ⟨by rfl, ?yP7n5⟩) ?rP7n5
    case yP7n5 => (intro w; first | (go_simp; done) | (go_simp; with_reducible rfl))
    try simp only [Act.put, List.setIfInBounds_toArray, List.set_cons_zero, List.set_cons_succ]
    refine wpAny_take (i := 8) (oi := { dst := some 41, op := Op.move (Operand.tmp 0), type := 9, pos := "law.go:140", after := #[], guard := none }) (v := ?vP8n6) rfl (by kernel_rfl) (by kernel_rfl) (by kernel_rfl) (fun _ _ _ h => h) (Or.inl ⟨by rfl, ?yP8n6⟩) ?rP8n6
    case yP8n6 => (intro w; first | (go_simp; done) | (go_simp; with_reducible rfl))
    try simp only [Act.put, List.setIfInBounds_toArray, List.set_cons_zero, List.set_cons_succ]
    refine wpAny_take (i := 9) (oi := { dst := some 42, op := Op.move (Operand.tmp 1), type := 3, pos := "law.go:140", after := #[], guard := none }) (v := ?vP9n7) rfl (by kernel_rfl) (by kernel_rfl) (by kernel_rfl) (fun _ _ _ h => h) (Or.inl ⟨by rfl, ?yP9n7⟩) ?rP9n7
    case yP9n7 => (intro w; first | (go_simp; done) | (go_simp; with_reducible rfl))
    try simp only [Act.put, List.setIfInBounds_toArray, List.set_cons_zero, List.set_cons_succ]
    refine wpAny_take (i := 10) (oi := { dst := some 43, op := Op.slice 9 (Operand.tmp 41) (some (Operand.tmp 42)) none none, type := 9, pos := "law.go:140", after := #[{ on := 8, ground := Ground.data }, { on := 9, ground := Ground.data }], guard := none }) (v := ?vP10n8) rfl (by kernel_rfl) (by kernel_rfl) (by kernel_rfl) (fun _ _ _ h => h) (Or.inl ⟨by rfl, ?yP10n8⟩) ?rP10n8
    case yP10n8 => (intro w; first | (go_simp; done) | (go_simp; with_reducible rfl))
    try simp only [Act.put, List.setIfInBounds_toArray, List.set_cons_zero, List.set_cons_succ]
    refine wpAny_ready (rs := [0, 5]) (by kernel_rfl) (by simp) (AllReady.cons (o := { dst := some 33, op := Op.buildSlice 24 0 #[], type := 24, pos := "law.go:140", after := #[], guard := none }) rfl (fun K hK => ?bPn9q0) (AllReady.cons (o := { dst := some 38, op := Op.call { callee := Callee.value (Operand.func 10), args := #[Operand.tmp 34, Operand.tmp 37], argTypes := #[22, 9] }, type := 24, pos := "law.go:140", after := #[{ on := 1, ground := Ground.data }, { on := 4, ground := Ground.data }], guard := none }) rfl (fun K hK => ?bPn9q1) AllReady.nil))
    case bPn9q0 =>
      go_simp
      first | (refine hK _ _ ?_; clear hK K) | skip
      have HPn := hidK HPi.out.empty
      clear HPi
      have HPi := hidK HPn.out
      clear HPn
      try simp only [Act.put, List.setIfInBounds_toArray, List.set_cons_zero, List.set_cons_succ]
      refine wpAny_ready (rs := [5]) (by kernel_rfl) (by simp) (AllReady.cons (o := { dst := some 38, op := Op.call { callee := Callee.value (Operand.func 10), args := #[Operand.tmp 34, Operand.tmp 37], argTypes := #[22, 9] }, type := 24, pos := "law.go:140", after := #[{ on := 1, ground := Ground.data }, { on := 4, ground := Ground.data }], guard := none }) rfl (fun K hK => ?bPn10q0) AllReady.nil)
      go_simp
      go_wp2_with (refine (HP1.out _ _ HPi.out).mono ?_; rintro e Y1 ⟨a1, c1, rfl, hpi⟩; have HPn := hidK hpi; clear hpi HPi; have HPi := hidK HPn.out; clear HPn)
      first | (refine hK _ _ ?_; clear hK K) | skip
      try simp only [Act.put, List.setIfInBounds_toArray, List.set_cons_zero, List.set_cons_succ]
      refine wpAny_ready (rs := [6]) (by kernel_rfl) (by simp) (AllReady.cons (o := { dst := some 39, op := Op.call { callee := Callee.builtin Builtin.append, args := #[Operand.tmp 33, Operand.tmp 38], argTypes := #[24, 24] }, type := 24, pos := "law.go:140", after := #[{ on := 0, ground := Ground.data }, { on := 5, ground := Ground.data }, { on := 5, ground := Ground.chain }], guard := none }) rfl (fun K hK => ?bPn11q0) AllReady.nil)
      refine step_pi _ rfl (.tmp 33) (.tmp 38) rfl ?hv1 ?hu1 (by first | exact HPi.out | exact HPi.out.perm (List.Perm.swap _ _ _)) HLn.out.2.2 ?_
      case hv1 => simp [Act.eval]
      case hu1 => simp [Act.eval]
      intro m1 Z1 hpi
      have HPn := hidK hpi.out
      clear hpi HPi
      have HPi := hidK HPn.out
      clear HPn
      first | (refine hK _ _ ?_; clear hK K) | skip
      try simp only [Act.put, List.setIfInBounds_toArray, List.set_cons_zero, List.set_cons_succ]
      refine wpAny_ready (rs := [11]) (by kernel_rfl) (by simp) (AllReady.cons (o := { dst := some 44, op := Op.call { callee := Callee.value (Operand.func 10), args := #[Operand.tmp 40, Operand.tmp 43], argTypes := #[22, 9] }, type := 24, pos := "law.go:140", after := #[{ on := 7, ground := Ground.data }, { on := 10, ground := Ground.data }, { on := 6, ground := Ground.chain }], guard := none }) rfl (fun K hK => ?bPn12q0) AllReady.nil)
      go_simp
      go_wp2_with (refine (HP2.out _ _ HPi.out).mono ?_; rintro e Y2 ⟨a2, c2, rfl, hpi⟩; have HPn := hidK hpi; clear hpi HPi; have HPi := hidK HPn.out; clear HPn)
      first | (refine hK _ _ ?_; clear hK K) | skip
      try simp only [Act.put, List.setIfInBounds_toArray, List.set_cons_zero, List.set_cons_succ]
      refine wpAny_ready (rs := [12]) (by kernel_rfl) (by simp) (AllReady.cons (o := { dst := some 45, op := Op.call { callee := Callee.builtin Builtin.append, args := #[Operand.tmp 39, Operand.tmp 44], argTypes := #[24, 24] }, type := 24, pos := "law.go:140", after := #[{ on := 6, ground := Ground.data }, { on := 11, ground := Ground.data }, { on := 11, ground := Ground.chain }], guard := none }) rfl (fun K hK => ?bPn13q0) AllReady.nil)
      refine step_pi _ rfl (.tmp 39) (.tmp 44) rfl ?hv2 ?hu2 (by first | exact HPi.out | exact HPi.out.perm (List.Perm.swap _ _ _)) HLn.out.2.1 ?_
      case hv2 => simp [Act.eval]
      case hu2 => simp [Act.eval]
      intro m2 Z2 hpi
      have HPn := hidK hpi.out
      clear hpi HPi
      have HPi := hidK HPn.out
      clear HPn
      first | (refine hK _ _ ?_; clear hK K) | skip
      try simp only [Act.put, List.setIfInBounds_toArray, List.set_cons_zero, List.set_cons_succ]
      refine wpAny_take (i := 13) (oi := { dst := some 8, op := Op.assign (Operand.tmp 45), type := 24, pos := "law.go:140", after := #[{ on := 12, ground := Ground.data }, { on := 12, ground := Ground.chain }, { on := 0, ground := Ground.phase }, { on := 1, ground := Ground.phase }, { on := 2, ground := Ground.phase }, { on := 3, ground := Ground.phase }, { on := 4, ground := Ground.phase }, { on := 5, ground := Ground.phase }, { on := 6, ground := Ground.phase }, { on := 7, ground := Ground.phase }, { on := 8, ground := Ground.phase }, { on := 9, ground := Ground.phase }, { on := 10, ground := Ground.phase }, { on := 11, ground := Ground.phase }, { on := 12, ground := Ground.phase }], guard := none }) (v := ?vP13n14) rfl (by kernel_rfl) (by kernel_rfl) (by kernel_rfl) (fun _ _ _ h => h) (Or.inl ⟨by rfl, ?yP13n14⟩) ?rP13n14
      case yP13n14 => (intro w; first | (go_simp; done) | (go_simp; with_reducible rfl))
      try simp only [Act.put, List.setIfInBounds_toArray, List.set_cons_zero, List.set_cons_succ]
      refine wpAny_done (by kernel_rfl) ?_ _
      go_wp2_with fail
      go_meet
      case rel => exact leaf_pi HPi.out HQ3.out
    case bPn9q1 =>
      go_simp
      go_wp2_with (refine (HP1.out _ _ HPi.out).mono ?_; rintro e Y1 ⟨a1, c1, rfl, hpi⟩; have HPn := hidK hpi; clear hpi HPi; have HPi := hidK HPn.out; clear HPn)
      first | (refine hK _ _ ?_; clear hK K) | skip
      try simp only [Act.put, List.setIfInBounds_toArray, List.set_cons_zero, List.set_cons_succ]
      refine wpAny_ready (rs := [0]) (by kernel_rfl) (by simp) (AllReady.cons (o := { dst := some 33, op := Op.buildSlice 24 0 #[], type := 24, pos := "law.go:140", after := #[], guard := none }) rfl (fun K hK => ?bPn15q0) AllReady.nil)
      go_simp
      first | (refine hK _ _ ?_; clear hK K) | skip
      have HPn := hidK HPi.out.empty
      clear HPi
      have HPi := hidK HPn.out
      clear HPn
      try simp only [Act.put, List.setIfInBounds_toArray, List.set_cons_zero, List.set_cons_succ]
      refine wpAny_ready (rs := [6]) (by kernel_rfl) (by simp) (AllReady.cons (o := { dst := some 39, op := Op.call { callee := Callee.builtin Builtin.append, args := #[Operand.tmp 33, Operand.tmp 38], argTypes := #[24, 24] }, type := 24, pos := "law.go:140", after := #[{ on := 0, ground := Ground.data }, { on := 5, ground := Ground.data }, { on := 5, ground := Ground.chain }], guard := none }) rfl (fun K hK => ?bPn16q0) AllReady.nil)
      refine step_pi _ rfl (.tmp 33) (.tmp 38) rfl ?hv1 ?hu1 (by first | exact HPi.out | exact HPi.out.perm (List.Perm.swap _ _ _)) HLn.out.2.2 ?_
      case hv1 => simp [Act.eval]
      case hu1 => simp [Act.eval]
      intro m1 Z1 hpi
      have HPn := hidK hpi.out
      clear hpi HPi
      have HPi := hidK HPn.out
      clear HPn
      first | (refine hK _ _ ?_; clear hK K) | skip
      try simp only [Act.put, List.setIfInBounds_toArray, List.set_cons_zero, List.set_cons_succ]
      refine wpAny_ready (rs := [11]) (by kernel_rfl) (by simp) (AllReady.cons (o := { dst := some 44, op := Op.call { callee := Callee.value (Operand.func 10), args := #[Operand.tmp 40, Operand.tmp 43], argTypes := #[22, 9] }, type := 24, pos := "law.go:140", after := #[{ on := 7, ground := Ground.data }, { on := 10, ground := Ground.data }, { on := 6, ground := Ground.chain }], guard := none }) rfl (fun K hK => ?bPn17q0) AllReady.nil)
      go_simp
      go_wp2_with (refine (HP2.out _ _ HPi.out).mono ?_; rintro e Y2 ⟨a2, c2, rfl, hpi⟩; have HPn := hidK hpi; clear hpi HPi; have HPi := hidK HPn.out; clear HPn)
      first | (refine hK _ _ ?_; clear hK K) | skip
      try simp only [Act.put, List.setIfInBounds_toArray, List.set_cons_zero, List.set_cons_succ]
      refine wpAny_ready (rs := [12]) (by kernel_rfl) (by simp) (AllReady.cons (o := { dst := some 45, op := Op.call { callee := Callee.builtin Builtin.append, args := #[Operand.tmp 39, Operand.tmp 44], argTypes := #[24, 24] }, type := 24, pos := "law.go:140", after := #[{ on := 6, ground := Ground.data }, { on := 11, ground := Ground.data }, { on := 11, ground := Ground.chain }], guard := none }) rfl (fun K hK => ?bPn18q0) AllReady.nil)
      refine step_pi _ rfl (.tmp 39) (.tmp 44) rfl ?hv2 ?hu2 (by first | exact HPi.out | exact HPi.out.perm (List.Perm.swap _ _ _)) HLn.out.2.1 ?_
      case hv2 => simp [Act.eval]
      case hu2 => simp [Act.eval]
      intro m2 Z2 hpi
      have HPn := hidK hpi.out
      clear hpi HPi
      have HPi := hidK HPn.out
      clear HPn
      first | (refine hK _ _ ?_; clear hK K) | skip
      try simp only [Act.put, List.setIfInBounds_toArray, List.set_cons_zero, List.set_cons_succ]
      refine wpAny_take (i := 13) (oi := { dst := some 8, op := Op.assign (Operand.tmp 45), type := 24, pos := "law.go:140", after := #[{ on := 12, ground := Ground.data }, { on := 12, ground := Ground.chain }, { on := 0, ground := Ground.phase }, { on := 1, ground := Ground.phase }, { on := 2, ground := Ground.phase }, { on := 3, ground := Ground.phase }, { on := 4, ground := Ground.phase }, { on := 5, ground := Ground.phase }, { on := 6, ground := Ground.phase }, { on := 7, ground := Ground.phase }, { on := 8, ground := Ground.phase }, { on := 9, ground := Ground.phase }, { on := 10, ground := Ground.phase }, { on := 11, ground := Ground.phase }, { on := 12, ground := Ground.phase }], guard := none }) (v := ?vP13n19) rfl (by kernel_rfl) (by kernel_rfl) (by kernel_rfl) (fun _ _ _ h => h) (Or.inl ⟨by rfl, ?yP13n19⟩) ?rP13n19
      case yP13n19 => (intro w; first | (go_simp; done) | (go_simp; with_reducible rfl))
      try simp only [Act.put, List.setIfInBounds_toArray, List.set_cons_zero, List.set_cons_succ]
      refine wpAny_done (by kernel_rfl) ?_ _
      go_wp2_with fail
      go_meet
      case rel => exact leaf_pi HPi.out HQ3.out
  case rest =>
    obtain ⟨a8, c8, rfl, HPx⟩ := hcut
    obtain ⟨vb, hdb⟩ := HPx.out.dc
    obtain ⟨hfa, hd3, hT3, hb3⟩ := HA.out
    have hne : db ≠ da := by have := H2.out.2.2.1; omega
    have hda2 := hd3.aside hdb.ap hne hb3
    have hsl : SeeK wc (.slice aa nk ca) (ks1 ++ ks2) := by
      have h := (hfa.keys.aside hdb.ap hb3).see
      have h3 := HNk.out
      rw [HFd.out] at h3
      simp only [] at h3
      rw [h3] at h
      exact h
    have hsm : SeeK wc (.slice a8 n3 c8) (ks1 ++ ks2) := (HPx.out.rows _ List.mem_cons_self).seeK
    have hTx := hdb.tabs hT3
    have HBl := hidK (below_two HWd.out H2.out.2.2.1 H2.out.2.2.2.2.2 H2.out.2.2.2.1 hd3.ap hdb.ap)
    obtain ⟨SH, hSH⟩ : ∃ SH, str h2 = SH := ⟨_, rfl⟩
    obtain ⟨M, hM⟩ : ∃ M, h2.length = M := ⟨_, rfl⟩
    have zH : SH.size = M := by rw [← hSH]; exact hM
    have hsuf : h2 <:+ t := by have h := feed_end t []; rw [HFd.out, List.nil_append] at h; exact h
    have hMN : M ≤ N := by rw [← hM, ← HNN.out]; exact hsuf.length_le
    have hsl3 : ∀ X : World, (Instr.slice 9 (.string S) (some (.int .i64 ((N : Int) - (M : Int)))) none none).run Tryd.prog X = .ok (.string SH) X := fun X => by
      have h := slice_from S (N - M) ((N : Int) - (M : Int)) (by omega) (by omega) X
      rw [h, ← hSH, ← HSS.out, str_dropF, ← HNN.out, ← hM, suff_drop hsuf]
    have tt : (SH.toList == SH.toList) = true := by simp
    have HHa := hidK (held_any hda2)
    have HDb := hidK hdb
    have HSH := hidK hSH
    rw [hSH] at HHa
    have hnk2 : nk = n3 := by have h2 := HNk.out; rw [HFd.out] at h2; rw [← h2, HQ3.out]
    subst hnk2
    have hk3 : (ks1 ++ ks2).length ≤ 4000000 := by rw [List.length_append]; have := HLn.out.1; omega
    have HSm := hidK (same_any hsl hsm hk3 hk3)
    rw [decide_eq_true (rfl : ks1 ++ ks2 = ks1 ++ ks2)] at HSm
    have HOk : Hid (∀ k ∈ ks1 ++ ks2, validB k.1 k.2 = true) := by have h := feed_ok t []; rw [HFd.out] at h; exact h
    have HSe := hidK hsl
    have HTx := hidK hTx
    have j1 : ¬ (N : Int) < (M : Int) := by omega
    have j3 : ¬ N < M := by omega
    have j2 : decide (N < M) = false := decide_eq_false j3
    have hk4 : nk ≤ 4000000 := by rw [← HQ3.out]; exact hk3
    clear hfa hd3 hT3 hb3 hda2 hsl hsm hTx hSH hM hsuf hdb hk3 HPi HPx HP1 HP2 HA
    go_wp2_with fail
    refine HHa.out.mono ?_
    rintro e X1 ⟨rfl, rfl⟩
    go_wp2_with fail
    refine HSm.out.mono ?_
    rintro e X2 ⟨rfl, hb2⟩
    have HB2 := hidK hb2
    have HHc : Hid (Calls Tryd.prog 11 #[.pointer (some ⟨db, 0, none⟩)] X2 fun r w' => r = .returned (.string SH) ∧ X2 = w') := by
      have h := held_any (HDb.out.more hb2)
      rw [HSH.out] at h
      exact h
    clear hb2
    go_wp2_with fail
    refine HHc.out.mono ?_
    rintro e X3 ⟨rfl, rfl⟩
    go_wp2_with fail
    go_loopw [10] (fun iv wr => ∃ k : Nat, k ≤ nk ∧ iv = .int .i64 k ∧ Hid (Below wc.heap.size wc wr)) (fun iv _ => nk - (intOf iv).toNat)
    case atStart => exact ⟨0, Nat.zero_le _, rfl, HB2.out⟩
    case round =>
      obtain ⟨k, hk, rfl, HB⟩ := hrel
      by_cases hlt : k < nk
      · have hka : k < (ks1 ++ ks2).length := by rw [HQ3.out]; exact hlt
        obtain ⟨g, o, rfl, b1, b2⟩ := HSe.out.at k hka
        obtain ⟨⟨x, y⟩, hxy⟩ : ∃ q, (ks1 ++ ks2)[k] = q := ⟨_, rfl⟩
        have hv : validB x y = true := by
          have h := HOk.out _ (List.getElem_mem hka)
          rw [hxy] at h
          exact h
        rw [hxy] at b1 b2
        simp only at b1 b2
        have e1 : wr.cell? ⟨g, o + k * 2, none⟩ = some (.int .i64 x) := (HB.out.cell (World.block_lt_of_cell? wc _ b1)).trans b1
        have e2 : wr.cell? ⟨g, o + k * 2 + 1, none⟩ = some (.int .i64 y) := (HB.out.cell (World.block_lt_of_cell? wc _ b2)).trans b2
        have HVa := hidK (valid_any x y)
        rw [hv] at HVa
        have hi1 : (k : Int) < (nk : Int) := by omega
        clear hxy hka b1 b2 hv
        go_wp2_with fail
        refine (HVa.out _).mono ?_
        rintro e w2 ⟨rfl, hb2⟩
        have HBn : Hid (Below wc.heap.size wc w2) := below_step HB.out hb2
        clear hb2
        go_wp2_with fail
        go_roundw
        case rel => exact ⟨k + 1, by omega, by first | rfl | go_num, HBn⟩
        case measure => simp [intOf]; omega
      · have hi1 : ¬ (k : Int) < (nk : Int) := by omega
        have HSu := hidK (sure_any (HTx.out.below HB.out))
        go_wp2_with fail
        refine HSu.out.mono ?_
        rintro e w2 ⟨rfl, hb2⟩
        have HBn := hidK (below_step HBl.out (below_step HB.out hb2))
        clear hb2
        go_wp2_with fail
        go_ret
        exact ⟨rfl, by first | exact HBn.out | (rw [← HWd.out]; exact HBn.out)⟩
end Go.Proofs.YtghepjjfdaecgaaDoor
