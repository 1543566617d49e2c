/-
  Options: OptionsNames.
-/
import Derived.Test.YtgdkpmfdpfjdjaaGreatDoorOSu
import Derived.Test.YtgdkpmfdpfjdjaaGreatDoorHZ
import Derived.Test.YtgdkpmfdpfjdjaaGreatDoorORs
namespace Go.Proofs.YtgdkpmfdpfjdjaaGreatDoor
open Go.RowKit Go.Maps
set_option linter.unusedVariables false
set_option maxRecDepth 100000

def scopeF (k : ByteArray) : Int := match rowO k with
  | some r => r.scope
  | none => 0
theorem scope_is {k : ByteArray} {sc : Int} (h : (∃ r ∈ rowsO, r.name = k ∧ sc = r.scope) ∨ (∀ r ∈ rowsO, r.name ≠ k) ∧ sc = 0) : sc = scopeF k := by
  unfold scopeF
  rcases h with ⟨r, hr, hn, rfl⟩ | ⟨hno, rfl⟩
  · rw [rowO_some hr hn]
  · rw [rowO_none hno]
theorem scope1_any (k : ByteArray) (hs : k.size ≤ 140737488355328) (w : World) : Calls Tryz.prog 14 #[.string k] w fun r w' => r = .returned (.int .i64 (scopeF k)) ∧ Below w.heap.size w w' := by
  refine (scope_any k (by unfold maxLen; omega)).mono ?_
  rintro e w' ⟨⟨sc, rfl, h⟩, hb⟩
  rw [scope_is h]
  exact ⟨rfl, hb⟩
theorem scope2_any (k : ByteArray) (w : World) : Calls Tryz.prog 15 #[.string k] w fun r w' => r = .returned (.int .i64 (scopeF k)) ∧ Below w.heap.size w w' := by
  refine (rScope_any k w).mono ?_
  rintro e w' ⟨⟨sc, rfl, h⟩, hb⟩
  rw [scope_is h]
  exact ⟨rfl, hb⟩
theorem Tb.grown {w w' : World} {d b n : Nat} {L : List Ent} (h : Tb w d b n L) {o : Option Nat} (hg : w.grownBy w' o) (hm : ∀ g, o = some g → ∃ cur, w.heap[g]? = some (.cells cur 9 (0, 0))) : Tb w' d b n L := by
  have hlt := h.lt
  have hd : some d ≠ o := fun e => by
    obtain ⟨cur, hc⟩ := hm d e.symm
    rw [h.blk] at hc
    cases hc
  obtain ⟨D, hD⟩ := h
  have hb : some b ≠ o := fun e => by
    obtain ⟨cur, hc⟩ := hm b e.symm
    obtain ⟨es, clock, hq, _⟩ := hD.own
    rw [hq] at hc
    cases hc
  exact ⟨D, (hg.block d hlt.1 hd).trans hD.blk, own_same hD.own (hg.block b hlt.2 hb), hD.dc⟩
theorem names_short : ∀ x ∈ namesO, x.size ≤ 100 := by decide
set_option maxHeartbeats 32000000 in
theorem optionsNames_walk {w : World} (hE : Env w) (nm : ByteArray) (hnm : nm.size ≤ 140737488355328) :
    Calls Tryz.prog 3 #[.string nm] w fun e w' => e = .returned (.bool true) ∧ Below w.heap.size w w' := by
  have HE := hidK hE
  have HNa := hidK (fun W => names_any W)
  have HRn := hidK (fun W => rNames_any W)
  have HNw := hidK (fun W => new_any W)
  have HNm := hidK (fun e W => num_any e W)
  have HSa : Hid (∀ W va vb, SeeN W va namesO → SeeN W vb namesO → Calls Tryz.prog 8 #[va, vb] W fun r w' => r = .returned (.bool true) ∧ Below W.heap.size W w') := fun W va vb ha hb => sameTexts_any ha hb (by decide)
  have HSu : Hid (∀ W, Below w.heap.size w W → Calls Tryz.prog 16 #[] W fun e w' => e = .returned (.bool true) ∧ Below W.heap.size W w') := fun W hW => sure_any (hE.below hW)
  have HZ := hidK hnm
  clear hE hnm
  go_enter Tryz.func3, Tryz.ntmps3
  go_wp2_with fail
  refine (HNa.out _).mono ?_
  rintro e w1 ⟨v1, rfl, ho1, hb1⟩
  have HO1 := hidK (nams_own ho1)
  have HB1 := hidK hb1
  obtain ⟨a1, c1, rfl⟩ := HO1.out.see.shape'
  obtain ⟨g1, o1, hag, hcl⟩ := HO1.out.see.cells (k := 0) (by decide)
  have ho0 : o1 = 0 := by
    rcases HO1.out.2 with ⟨e, _⟩ | ⟨g', cap, cur, e, hb, hk, _⟩
    · cases e
    · cases e
      cases hag
      rfl
  subst ho0
  subst hag
  obtain ⟨hge1, cur1, hk1⟩ := HO1.out.blk (g := g1) rfl
  have HK1 := hidK (And.intro hge1 hk1)
  have HC1 := hidK hcl
  rw [names_len] at HO1 ⊢
  clear ho1 hb1 hge1 hk1 hcl
  go_wp2_with fail
  refine (HRn.out _).mono ?_
  rintro e w2 ⟨v2, rfl, ho2, hb2⟩
  obtain ⟨a2, c2, rfl⟩ := ho2.see.shape'
  rw [names_len] at ho2 ⊢
  have HS1 := hidK (HO1.out.see.below hb2)
  have HS2 := hidK ho2.see
  have HB2 := hidK (bst HB1.out hb2)
  have HK2 := hidK (kpO hb2 HK1.out.2)
  clear ho2 hb2
  go_wp2_with fail
  refine (HSa.out _ _ _ HS1.out HS2.out).mono ?_
  rintro e w3 ⟨rfl, hb3⟩
  have HB3 := hidK (bst HB2.out hb3)
  have hk3 := kpO hb3 HK2.out
  obtain ⟨cz, hcz⟩ : ∃ cz, cur1[0]? = some cz := by
    have h0 := HC1.out w1 (Below.refl _ _)
    rw [cell_at HK1.out.2 (0 + 0)] at h0
    exact ⟨_, h0⟩
  have x0 : w3.cell? ⟨g1, 0, none⟩ = some cz := (cell_at hk3 0).trans hcz
  have y0 := free_at hk3 0
  have HGe := hidK HK1.out.1
  clear hb3 hk3 hcz HS1 HS2 HK2 HC1 HB2 HB1 HO1 HK1
  go_wp2_with fail
  obtain ⟨w4, hw4⟩ : ∃ W, w3.setCell ⟨g1, 0, none⟩ (.string ⟨#[115, 112, 111, 105, 108, 116]⟩) = W := ⟨_, rfl⟩
  have HB4 : Hid (Below w.heap.size w w4) := by show Below _ _ _; rw [← hw4]; exact HB3.out.setCell HGe.out _
  try rw [hw4]
  have HB4s : Hid (w.heap.size ≤ w4.heap.size) := HB4.out.size
  clear hw4 x0 y0 HB3 HGe
  refine (HNa.out _).mono ?_
  rintro e w5 ⟨v5, rfl, ho5, hb5⟩
  have HO5 := hidK (nams_own ho5)
  obtain ⟨a5, c5, rfl⟩ := HO5.out.see.shape'
  rw [names_len] at HO5 ⊢
  have HB5 := hidK (bst HB4.out hb5)
  clear ho5 hb5 HB4
  go_wp2_with fail
  refine (HNw.out _).mono ?_
  rintro e w6 ⟨rfl, ht6, hb6⟩
  obtain ⟨d, hd⟩ : ∃ d, w5.heap.size + 1 = d := ⟨_, rfl⟩
  obtain ⟨b, hb⟩ : ∃ b, w5.heap.size = b := ⟨_, rfl⟩
  rw [hd, hb] at ht6
  rw [hd]
  have HT6 := hidK ht6
  have HB6 := hidK (bst HB5.out hb6)
  have HO6 := hidK (HO5.out.below hb6)
  clear ht6 hb6 hd hb HO5 HB5
  go_wp2_with fail
  refine (HRn.out _).mono ?_
  rintro e w7 ⟨v7, rfl, ho7, hb7⟩
  obtain ⟨a7, c7, rfl⟩ := ho7.see.shape'
  rw [names_len] at ho7 ⊢
  have HO7 := hidK (HO6.out.below hb7)
  have HS7 := hidK ho7.see
  have HT7 := hidK (HT6.out.more hb7)
  have HB7 := hidK (bst HB6.out hb7)
  clear ho7 hb7 HO6 HT6 HB6
  go_wp2_with fail
  refine (HSa.out _ _ _ HO7.out.see HS7.out).mono ?_
  rintro e w8 ⟨rfl, hb8⟩
  have HO8 := hidK (HO7.out.below hb8)
  have HT8 := hidK (HT7.out.more hb8)
  have HB8 := hidK (bst HB7.out hb8)
  clear hb8 HO7 HT7 HB7 HS7
  have hsz : w4.heap.size ≤ w8.heap.size := by
    obtain ⟨_, cur, hk⟩ := HO8.out.blk (g := (match a5 with | some a => a.block | none => 0)) (by
      rcases HO8.out.2 with ⟨e, h0⟩ | ⟨g', cap, cur, e, _⟩
      · rw [names_len] at h0; cases h0
      · cases e; rfl)
    have h1 := lt_block hk
    have := (HO8.out.blk (g := (match a5 with | some a => a.block | none => 0)) (by
      rcases HO8.out.2 with ⟨e, h0⟩ | ⟨g', cap, cur, e, _⟩
      · rw [names_len] at h0; cases h0
      · cases e; rfl)).1
    omega
  have HSz := hidK hsz
  clear hsz
  go_wp2_with (at_builtin; refine wpList_append_nam _ rfl (.tmp 28) (.tmp 30) rfl w4.heap.size _ namesO rfl (HO8.out.below ((Below.refl _ _).alloc (Nat.le_refl _) _)) w8.heap.size nm rfl (heap_alloc_new w8 _) ?x1 ?x2 ?_; (case x1 => rw [names_len]; decide); (case x2 => have h1 := HSz.out; simp; omega); intro v9 w9 ho9 hg9; obtain ⟨a9, c9, rfl⟩ := ho9.see.shape'; have hl9 : (namesO ++ [nm]).length = 23 := (by rw [List.length_append, names_len]; rfl); have HO9 := hidK ho9.see; rw [hl9] at HO9; rw [hl9]; have HT9 := hidK ((HT8.out.more ((Below.refl _ _).alloc (Nat.le_refl _) _)).grown hg9 (fun g hg => ((HO8.out.below ((Below.refl _ _).alloc (Nat.le_refl _) _)).blk hg).2)); have HB9 : Hid (Below w.heap.size w w9) := (HB8.out.alloc HB8.out.size _).grown hg9 (by have h1 := HB8.out.size; simp; omega) (fun j hj => by have h1 := (HO8.out.blk hj).1; have h2 := HB4s.out; omega); clear ho9 hg9)
  have HN := hidK hl9
  have HSs : Hid (∀ x ∈ namesO ++ [nm], x.size ≤ 140737488355328) := fun x hx => by
    rcases List.mem_append.1 hx with h | h
    · have := names_short x h; omega
    · rw [List.mem_singleton] at h; rw [h]; exact HZ.out
  have HCl := hidK (fun k (hk : k < (namesO ++ [nm]).length) => HO9.out.cells hk)
  obtain ⟨NL, hNL⟩ : ∃ l, namesO ++ [nm] = l := ⟨_, rfl⟩
  rw [hNL] at HN HSs HCl
  clear hNL hl9 HO9 HO8 HT8 HB8 HSz HNa HRn HNw HSa HZ
  go_loopw [6] (fun iv wr => ∃ k : Nat, k ≤ 23 ∧ iv = .int .i64 k ∧ Hid (Below w9.heap.size w9 wr)) (fun iv _ => 23 - (intOf iv).toNat)
  case atStart => exact ⟨0, Nat.zero_le _, rfl, Below.refl _ _⟩
  case round =>
    obtain ⟨k, hk, rfl, HW⟩ := hrel
    by_cases hlt : k < 23
    · have i1 : (k : Int) < 23 := by omega
      have hkl : k < NL.length := by rw [HN.out]; exact hlt
      obtain ⟨g, o, rfl, hc⟩ := HCl.out k hkl
      have hxs := HSs.out _ (List.getElem_mem hkl)
      obtain ⟨x, hx⟩ : ∃ x, NL[k] = x := ⟨_, rfl⟩
      rw [hx] at hc hxs
      have HC := hidK hc
      have HTr := hidK (HT9.out.more HW.out)
      have HG := hidK (get_any HTr.out good_nil (nm := x) hxs (s := 0) (v := 0) (p := 0) (by decide) (by decide) (by decide))
      have HRg : Hid (∀ W, Calls Tryz.prog 12 #[.agg #[.slice none 0 0], .string x, .int .i64 0, .int .i64 0, .int .i64 0] W fun e w' => getOut [] x 0 0 0 e ∧ Below W.heap.size W w') := fun W => rGet_any (EntsAt.nil W W.heap.size).see (by decide) x 0 0 0
      unfold getOut at HG HRg
      obtain ⟨gv, hgv⟩ : ∃ y, (getF [] x 0 0 0).1 = y := ⟨_, rfl⟩
      obtain ⟨ge, hge⟩ : ∃ y, (getF [] x 0 0 0).2 = y := ⟨_, rfl⟩
      rw [hgv, hge] at HG HRg
      have HS1 : Hid (∀ W, Calls Tryz.prog 14 #[.string x] W fun r w' => r = .returned (.int .i64 (scopeF x)) ∧ Below W.heap.size W w') := fun W => scope1_any x hxs W
      have HS2 : Hid (∀ W, Calls Tryz.prog 15 #[.string x] W fun r w' => r = .returned (.int .i64 (scopeF x)) ∧ Below W.heap.size W w') := fun W => scope2_any x W
      obtain ⟨sx, hsx⟩ : ∃ y, scopeF x = y := ⟨_, rfl⟩
      rw [hsx] at HS1 HS2
      have p0 := hc wr HW.out
      have he1 : (gv.toList == gv.toList) = true := by simp
      clear hc hxs hx hgv hge hsx hkl
      go_wp2_with fail
      refine HG.out.mono ?_
      rintro e z1 ⟨rfl, hz1⟩
      have HW1 := hidK (bst HW.out hz1)
      have p1 := HC.out z1 HW1.out
      clear hz1 p0 HTr HG
      go_wp2_with fail
      refine (HRg.out _).mono ?_
      rintro e z2 ⟨rfl, hz2⟩
      have HW2 := hidK (bst HW1.out hz2)
      clear hz2 p1 HW1 HRg
      go_upto_region 15 with fail
      refine wp_region_held_drew (S := (fun X => X.cell? ⟨g, o + k, none⟩ = some (.string x))) (by kernel_rfl) ?sP (fun hHeld => ?_)
      case sP => ((try dsimp only); exact HC.out _ (by first | exact HW2.out | exact HW2.out.drew))
      have HWn := hidK HW2.out.drew
      clear HW2
      have HW2 := hidK HWn.out
      clear HWn
      refine wpAnyH_take (i := 0) (oi := { dst := some 56, op := Op.move (Operand.tmp 7), type := 9, pos := "law.go:87", after := #[], guard := none }) (v := ?vP0n1) rfl (by kernel_rfl) (by kernel_rfl) (by kernel_rfl) (fun _ _ _ h => h) (Or.inl ⟨by rfl, ?yP0n1⟩) (by assumption) ?rP0n1
      case yP0n1 => (intro w hSw; (try dsimp only at hSw); first | (go_simp; done) | (go_simp; with_reducible rfl))
      try simp only [Act.put, List.setIfInBounds_toArray, List.set_cons_zero, List.set_cons_succ]
      refine wpAnyH_take (i := 1) (oi := { dst := some 57, op := Op.move (Operand.tmp 9), type := 9, pos := "law.go:87", after := #[], guard := none }) (v := ?vP1n2) rfl (by kernel_rfl) (by kernel_rfl) (by kernel_rfl) (fun _ _ _ h => h) (Or.inl ⟨by rfl, ?yP1n2⟩) (by assumption) ?rP1n2
      case yP1n2 => (intro w hSw; (try dsimp only at hSw); first | (go_simp; done) | (go_simp; with_reducible rfl))
      try simp only [Act.put, List.setIfInBounds_toArray, List.set_cons_zero, List.set_cons_succ]
      refine wpAnyH_take (i := 2) (oi := { dst := some 58, op := Op.binOp BinOp.neq 9 (Operand.tmp 56) (Operand.tmp 57) 9, type := 4, pos := "law.go:87", after := #[{ on := 0, ground := Ground.data }, { on := 1, ground := Ground.data }], guard := none }) (v := ?vP2n3) rfl (by kernel_rfl) (by kernel_rfl) (by kernel_rfl) (fun _ _ _ h => h) (Or.inl ⟨by rfl, ?yP2n3⟩) (by assumption) ?rP2n3
      case yP2n3 => (intro w hSw; (try dsimp only at hSw); first | (go_simp; done) | (go_simp; with_reducible rfl))
      try simp only [Act.put, List.setIfInBounds_toArray, List.set_cons_zero, List.set_cons_succ]
      refine wpAnyH_take (i := 3) (oi := { dst := some 59, op := Op.move (Operand.tmp 58), type := 4, pos := "law.go:87", after := #[{ on := 2, ground := Ground.data }], guard := none }) (v := ?vP3n4) rfl (by kernel_rfl) (by kernel_rfl) (by kernel_rfl) (fun _ _ _ h => h) (Or.inl ⟨by rfl, ?yP3n4⟩) (by assumption) ?rP3n4
      case yP3n4 => (intro w hSw; (try dsimp only at hSw); first | (go_simp; done) | (go_simp; with_reducible rfl))
      try simp only [Act.put, List.setIfInBounds_toArray, List.set_cons_zero, List.set_cons_succ]
      refine wpAnyH_take (i := 4) (oi := { dst := some 60, op := Op.move (Operand.tmp 8), type := 27, pos := "law.go:87", after := #[{ on := 3, ground := Ground.guard }], guard := some (3, false) }) (v := ?vP4n5) rfl (by kernel_rfl) (by kernel_rfl) (by kernel_rfl) (fun _ _ _ h => h) (Or.inl ⟨by rfl, ?yP4n5⟩) (by assumption) ?rP4n5
      case yP4n5 => (intro w hSw; (try dsimp only at hSw); first | (go_simp; done) | (go_simp; with_reducible rfl))
      try simp only [Act.put, List.setIfInBounds_toArray, List.set_cons_zero, List.set_cons_succ]
      refine wpAnyH_take (i := 6) (oi := { dst := some 62, op := Op.move (Operand.tmp 10), type := 3, pos := "law.go:87", after := #[{ on := 3, ground := Ground.guard }], guard := some (3, false) }) (v := ?vP6n6) rfl (by kernel_rfl) (by kernel_rfl) (by kernel_rfl) (fun _ _ _ h => h) (Or.inl ⟨by rfl, ?yP6n6⟩) (by assumption) ?rP6n6
      case yP6n6 => (intro w hSw; (try dsimp only at hSw); first | (go_simp; done) | (go_simp; with_reducible rfl))
      try simp only [Act.put, List.setIfInBounds_toArray, List.set_cons_zero, List.set_cons_succ]
      refine wpAnyH_ready (rs := [5]) (by kernel_rfl) (by simp) (AllReadyH.cons (o := { dst := some 61, op := Op.call { callee := Callee.value (Operand.func 13), args := #[Operand.tmp 60], argTypes := #[27] }, type := 3, pos := "law.go:87", after := #[{ on := 4, ground := Ground.data }, { on := 3, ground := Ground.chain }, { on := 3, ground := Ground.guard }], guard := some (3, false) }) rfl (fun K hK => ?bPn7q0) AllReadyH.nil)
      go_simp
      go_wp2_with (refine (HNm.out _ _).mono ?_; rintro e z3 ⟨rfl, hz3⟩; subst hz3)
      refine hK.out _ _ ?kPn7o5 (fun hHeld7 => ?_)
      case kPn7o5 => ((try dsimp only); exact HC.out _ (by first | exact HW2.out | exact HW2.out.drew))
      clear hK K
      try simp only [Act.put, List.setIfInBounds_toArray, List.set_cons_zero, List.set_cons_succ]
      refine wpAnyH_take (i := 7) (oi := { dst := some 63, op := Op.binOp BinOp.neq 3 (Operand.tmp 61) (Operand.tmp 62) 3, type := 4, pos := "law.go:87", after := #[{ on := 5, ground := Ground.data }, { on := 6, ground := Ground.data }, { on := 3, ground := Ground.guard }], guard := some (3, false) }) (v := ?vP7n8) rfl (by kernel_rfl) (by kernel_rfl) (by kernel_rfl) (fun _ _ _ h => h) (Or.inl ⟨by rfl, ?yP7n8⟩) (by assumption) ?rP7n8
      case yP7n8 => (intro w hSw; (try dsimp only at hSw); first | (go_simp; done) | (go_simp; with_reducible rfl))
      try simp only [Act.put, List.setIfInBounds_toArray, List.set_cons_zero, List.set_cons_succ]
      refine wpAnyH_take (i := 8) (oi := { dst := some 64, op := Op.pick (Operand.tmp 59) (Operand.const (Value.bool true)) (Operand.tmp 63), type := 4, pos := "law.go:87", after := #[{ on := 3, ground := Ground.data }, { on := 7, ground := Ground.data }], guard := none }) (v := ?vP8n9) rfl (by kernel_rfl) (by kernel_rfl) (by kernel_rfl) (fun _ _ _ h => h) (Or.inl ⟨by rfl, ?yP8n9⟩) (by assumption) ?rP8n9
      case yP8n9 => (intro w hSw; (try dsimp only at hSw); first | (go_simp; done) | (go_simp; with_reducible rfl))
      try simp only [Act.put, List.setIfInBounds_toArray, List.set_cons_zero, List.set_cons_succ]
      refine wpAnyH_take (i := 9) (oi := { dst := some 65, op := Op.move (Operand.tmp 64), type := 4, pos := "law.go:87", after := #[{ on := 8, ground := Ground.data }, { on := 5, ground := Ground.chain }], guard := none }) (v := ?vP9n10) rfl (by kernel_rfl) (by kernel_rfl) (by kernel_rfl) (fun _ _ _ h => h) (Or.inl ⟨by rfl, ?yP9n10⟩) (by assumption) ?rP9n10
      case yP9n10 => (intro w hSw; (try dsimp only at hSw); first | (go_simp; done) | (go_simp; with_reducible rfl))
      try simp only [Act.put, List.setIfInBounds_toArray, List.set_cons_zero, List.set_cons_succ]
      refine wpAnyH_take (i := 10) (oi := { dst := some 66, op := Op.move (Operand.tmp 4), type := 22, pos := "law.go:87", after := #[{ on := 9, ground := Ground.guard }], guard := some (9, false) }) (v := ?vP10n11) rfl (by kernel_rfl) (by kernel_rfl) (by kernel_rfl) (fun _ _ _ h => h) (Or.inl ⟨by rfl, ?yP10n11⟩) (by assumption) ?rP10n11
      case yP10n11 => (intro w hSw; (try dsimp only at hSw); first | (go_simp; done) | (go_simp; with_reducible rfl))
      try simp only [Act.put, List.setIfInBounds_toArray, List.set_cons_zero, List.set_cons_succ]
      refine wpAnyH_take (i := 11) (oi := { dst := some 67, op := Op.move (Operand.tmp 6), type := 3, pos := "law.go:87", after := #[{ on := 9, ground := Ground.guard }], guard := some (9, false) }) (v := ?vP11n12) rfl (by kernel_rfl) (by kernel_rfl) (by kernel_rfl) (fun _ _ _ h => h) (Or.inl ⟨by rfl, ?yP11n12⟩) (by assumption) ?rP11n12
      case yP11n12 => (intro w hSw; (try dsimp only at hSw); first | (go_simp; done) | (go_simp; with_reducible rfl))
      try simp only [Act.put, List.setIfInBounds_toArray, List.set_cons_zero, List.set_cons_succ]
      refine wpAnyH_take (i := 12) (oi := { dst := some 68, op := Op.indexAddr 22 (Operand.tmp 66) (Operand.tmp 67), type := 0, pos := "law.go:87", after := #[{ on := 10, ground := Ground.data }, { on := 11, ground := Ground.data }, { on := 9, ground := Ground.guard }], guard := some (9, false) }) (v := ?vP12n13) rfl (by kernel_rfl) (by kernel_rfl) (by kernel_rfl) (fun _ _ _ h => h) (Or.inl ⟨by rfl, ?yP12n13⟩) (by assumption) ?rP12n13
      case yP12n13 => (intro w hSw; (try dsimp only at hSw); first | (go_simp; done) | (go_simp; with_reducible rfl))
      try simp only [Act.put, List.setIfInBounds_toArray, List.set_cons_zero, List.set_cons_succ]
      refine wpAnyH_take (i := 13) (oi := { dst := some 69, op := Op.load 9 (Operand.tmp 68), type := 9, pos := "law.go:87", after := #[{ on := 12, ground := Ground.data }, { on := 9, ground := Ground.guard }], guard := some (9, false) }) (v := ?vP13n14) rfl (by kernel_rfl) (by kernel_rfl) (by kernel_rfl) (fun _ _ _ h => h) (Or.inl ⟨by rfl, ?yP13n14⟩) (by assumption) ?rP13n14
      case yP13n14 => (intro w hSw; (try dsimp only at hSw); first | (go_simp; done) | (go_simp; with_reducible rfl))
      try simp only [Act.put, List.setIfInBounds_toArray, List.set_cons_zero, List.set_cons_succ]
      refine wpAnyH_take (i := 15) (oi := { dst := some 71, op := Op.move (Operand.tmp 4), type := 22, pos := "law.go:87", after := #[{ on := 9, ground := Ground.guard }], guard := some (9, false) }) (v := ?vP15n15) rfl (by kernel_rfl) (by kernel_rfl) (by kernel_rfl) (fun _ _ _ h => h) (Or.inl ⟨by rfl, ?yP15n15⟩) (by assumption) ?rP15n15
      case yP15n15 => (intro w hSw; (try dsimp only at hSw); first | (go_simp; done) | (go_simp; with_reducible rfl))
      try simp only [Act.put, List.setIfInBounds_toArray, List.set_cons_zero, List.set_cons_succ]
      refine wpAnyH_take (i := 16) (oi := { dst := some 72, op := Op.move (Operand.tmp 6), type := 3, pos := "law.go:87", after := #[{ on := 9, ground := Ground.guard }], guard := some (9, false) }) (v := ?vP16n16) rfl (by kernel_rfl) (by kernel_rfl) (by kernel_rfl) (fun _ _ _ h => h) (Or.inl ⟨by rfl, ?yP16n16⟩) (by assumption) ?rP16n16
      case yP16n16 => (intro w hSw; (try dsimp only at hSw); first | (go_simp; done) | (go_simp; with_reducible rfl))
      try simp only [Act.put, List.setIfInBounds_toArray, List.set_cons_zero, List.set_cons_succ]
      refine wpAnyH_take (i := 17) (oi := { dst := some 73, op := Op.indexAddr 22 (Operand.tmp 71) (Operand.tmp 72), type := 0, pos := "law.go:87", after := #[{ on := 15, ground := Ground.data }, { on := 16, ground := Ground.data }, { on := 9, ground := Ground.guard }], guard := some (9, false) }) (v := ?vP17n17) rfl (by kernel_rfl) (by kernel_rfl) (by kernel_rfl) (fun _ _ _ h => h) (Or.inl ⟨by rfl, ?yP17n17⟩) (by assumption) ?rP17n17
      case yP17n17 => (intro w hSw; (try dsimp only at hSw); first | (go_simp; done) | (go_simp; with_reducible rfl))
      try simp only [Act.put, List.setIfInBounds_toArray, List.set_cons_zero, List.set_cons_succ]
      refine wpAnyH_take (i := 18) (oi := { dst := some 74, op := Op.load 9 (Operand.tmp 73), type := 9, pos := "law.go:87", after := #[{ on := 17, ground := Ground.data }, { on := 9, ground := Ground.guard }], guard := some (9, false) }) (v := ?vP18n18) rfl (by kernel_rfl) (by kernel_rfl) (by kernel_rfl) (fun _ _ _ h => h) (Or.inl ⟨by rfl, ?yP18n18⟩) (by assumption) ?rP18n18
      case yP18n18 => (intro w hSw; (try dsimp only at hSw); first | (go_simp; done) | (go_simp; with_reducible rfl))
      try simp only [Act.put, List.setIfInBounds_toArray, List.set_cons_zero, List.set_cons_succ]
      refine wpAnyH_ready (rs := [14]) (by kernel_rfl) (by simp) (AllReadyH.cons (o := { dst := some 70, op := Op.call { callee := Callee.value (Operand.func 14), args := #[Operand.tmp 69], argTypes := #[9] }, type := 3, pos := "law.go:87", after := #[{ on := 13, ground := Ground.data }, { on := 9, ground := Ground.chain }, { on := 9, ground := Ground.guard }], guard := some (9, false) }) rfl (fun K hK => ?bPn19q0) AllReadyH.nil)
      go_simp
      go_wp2_with (refine (HS1.out _).mono ?_; rintro e z4 ⟨rfl, hz4⟩; have HWn := hidK (bst HW2.out hz4); clear HW2 hz4; have HW2 := hidK HWn.out; clear HWn)
      refine hK.out _ _ ?kPn19o14 (fun hHeld19 => ?_)
      case kPn19o14 => ((try dsimp only); exact HC.out _ (by first | exact HW2.out | exact HW2.out.drew))
      clear hK K
      try simp only [Act.put, List.setIfInBounds_toArray, List.set_cons_zero, List.set_cons_succ]
      refine wpAnyH_ready (rs := [19]) (by kernel_rfl) (by simp) (AllReadyH.cons (o := { dst := some 75, op := Op.call { callee := Callee.value (Operand.func 15), args := #[Operand.tmp 74], argTypes := #[9] }, type := 3, pos := "law.go:87", after := #[{ on := 18, ground := Ground.data }, { on := 14, ground := Ground.chain }, { on := 9, ground := Ground.guard }], guard := some (9, false) }) rfl (fun K hK => ?bPn20q0) AllReadyH.nil)
      go_simp
      go_wp2_with (refine (HS2.out _).mono ?_; rintro e z5 ⟨rfl, hz5⟩; have HWn := hidK (bst HW2.out hz5); clear HW2 hz5; have HW2 := hidK HWn.out; clear HWn)
      refine hK.out _ _ ?kPn20o19 (fun hHeld20 => ?_)
      case kPn20o19 => ((try dsimp only); exact HC.out _ (by first | exact HW2.out | exact HW2.out.drew))
      clear hK K
      try simp only [Act.put, List.setIfInBounds_toArray, List.set_cons_zero, List.set_cons_succ]
      refine wpAnyH_take (i := 20) (oi := { dst := some 76, op := Op.binOp BinOp.neq 3 (Operand.tmp 70) (Operand.tmp 75) 3, type := 4, pos := "law.go:87", after := #[{ on := 14, ground := Ground.data }, { on := 19, ground := Ground.data }, { on := 9, ground := Ground.guard }], guard := some (9, false) }) (v := ?vP20n21) rfl (by kernel_rfl) (by kernel_rfl) (by kernel_rfl) (fun _ _ _ h => h) (Or.inl ⟨by rfl, ?yP20n21⟩) (by assumption) ?rP20n21
      case yP20n21 => (intro w hSw; (try dsimp only at hSw); first | (go_simp; done) | (go_simp; with_reducible rfl))
      try simp only [Act.put, List.setIfInBounds_toArray, List.set_cons_zero, List.set_cons_succ]
      refine wpAnyH_take (i := 21) (oi := { dst := some 77, op := Op.pick (Operand.tmp 65) (Operand.const (Value.bool true)) (Operand.tmp 76), type := 4, pos := "law.go:87", after := #[{ on := 9, ground := Ground.data }, { on := 20, ground := Ground.data }], guard := none }) (v := ?vP21n22) rfl (by kernel_rfl) (by kernel_rfl) (by kernel_rfl) (fun _ _ _ h => h) (Or.inl ⟨by rfl, ?yP21n22⟩) (by assumption) ?rP21n22
      case yP21n22 => (intro w hSw; (try dsimp only at hSw); first | (go_simp; done) | (go_simp; with_reducible rfl))
      try simp only [Act.put, List.setIfInBounds_toArray, List.set_cons_zero, List.set_cons_succ]
      refine wpAnyH_done (by kernel_rfl) ?_ _
      go_wp2_with fail
      go_roundw
      case rel => exact ⟨k + 1, by omega, by go_num, HW2.out⟩
      case measure => simp [intOf]; omega
    · have i1 : ¬ (k : Int) < 23 := by omega
      have HWf := hidK (bst HB9.out HW.out)
      go_wp2_with fail
      refine (HSu.out _ HWf.out).mono ?_
      rintro e z6 ⟨rfl, hz6⟩
      have HWg := hidK (bst HWf.out hz6)
      clear hz6
      go_wp2_with fail
      go_ret
      exact ⟨rfl, HWg.out⟩
end Go.Proofs.YtgdkpmfdpfjdjaaGreatDoor
