/-
  Options: Set, Unset.
-/
import Derived.Test.YtgdkpmfdpfjdjaaGreatDoorHY
namespace Go.Proofs.YtgdkpmfdpfjdjaaGreatDoor
open Go.RowKit Go.Maps
set_option linter.unusedVariables false
set_option maxRecDepth 100000

set_option maxHeartbeats 16000000 in
theorem set_any {w : World} {d b n : Nat} {L : List Ent} (h : Tb w d b n L) (hE : Env w) (hG : Good L) (hn : n < maxLen) {sc id : Int} {nm : ByteArray} (hw : keyWf sc id nm) (vl : ByteArray) (hv : vl.size ≤ 140737488355328) :
    Calls Tryz.prog 26 #[.pointer (some ⟨d, 0, none⟩), .int .i64 sc, .int .i64 id, .string nm, .string vl] w fun e w' => PutP w d b n (setF L sc id nm vl) e w' := by
  have HTb := hidK h
  have HE := hidK hE
  have HG := hidK hG
  have HN := hidK hn
  have HW := hidK hw
  have HFi : Hid (∀ X, Calls Tryz.prog 49 #[.agg #[.int .i64 sc, .int .i64 id, .string nm]] X fun e w' => Fnd X sc id nm e w') := fun X => find_any sc id nm hw.2.2
  have HSl : Hid (∀ X, Calls Tryz.prog 48 #[.int .i64 sc, .int .i64 id, .string nm] X fun r w' => r = .returned (.agg #[.int .i64 sc, .int .i64 id, .string nm]) ∧ Below X.heap.size X w') := fun X => slotOf_any sc id nm X
  have hrs := run_store_func
  have hrn := run_store_nil
  clear h hE hG hn hw
  go_enter Tryz.func26, Tryz.ntmps26
  go_wp2_with fail
  refine (HSl.out _).mono ?_
  rintro e Y1 ⟨rfl, hb1⟩
  obtain ⟨V, hV, av, bv, sv⟩ := two_blk (w := Y1) #[.int .i64 sc, .int .i64 id, .string nm] 69
  obtain ⟨q, hq⟩ : ∃ q, Y1.heap.size = q := ⟨_, rfl⟩
  rw [hq] at av
  have HV : Hid (Bl w V q sc id nm) := ⟨bst hb1 bv, av, by have := hb1.size; omega⟩
  have c0 := cell_at av 0
  have c1 := cell_at av 1
  have c2 := cell_at av 2
  clear hb1 av bv sv
  go_wp2_with fail
  refine (HFi.out _).mono ?_
  rintro e Z hF
  have HZ := hidK (HV.out.more hF.below)
  clear c0 c1 c2 hV hq HV HSl HFi
  rcases hF.told with ⟨r, g, cap, bk, hr, hpl, hge, hk, rfl⟩ | ⟨hpl, rfl⟩
  · clear hF
    obtain ⟨X, hX, ax, bx, sx⟩ := two_blk (w := Z) #[.int .i64 r.scope, .func (.func g) #[] cap, .bool (isTxt r.kd), .bool (isFlag r.kd), .string r.first] 51
    have HKk : Hid (KindAt X bk r.kd (.agg #[.func (.func g) #[] cap, .bool (isTxt r.kd), .bool (isFlag r.kd)])) := hk.keep fun _ _ _ h => kpO bx h
    have HX := hidK (HZ.out.more bx)
    have HR := hidK hr
    have HP := hidK hpl
    obtain ⟨qo, hqo⟩ : ∃ q, Z.heap.size = q := ⟨_, rfl⟩
    rw [hqo] at ax
    obtain ⟨rs, hrs0⟩ : ∃ x, r.scope = x := ⟨_, rfl⟩
    obtain ⟨xb, hxb⟩ : ∃ x, isTxt r.kd = x := ⟨_, rfl⟩
    obtain ⟨yb, hyb⟩ : ∃ x, isFlag r.kd = x := ⟨_, rfl⟩
    obtain ⟨fs, hfs⟩ : ∃ x, r.first = x := ⟨_, rfl⟩
    rw [hxb, hyb] at HKk
    rw [hrs0, hxb, hyb, hfs] at hX ax ⊢
    have HXb := hidK hxb
    have HYb := hidK hyb
    have HFs := hidK hfs
    have c0 := cell_at HX.out.q1 0
    have c1 := cell_at HX.out.q1 1
    have c2 := cell_at HX.out.q1 2
    have x0 := cell_at ax 0
    have x1 := cell_at ax 1
    have x2 := cell_at ax 2
    have x3 := cell_at ax 3
    have x4 := cell_at ax 4
    have HAx := hidK ax
    clear hrs0 hxb hyb hfs ax bx sx hr hpl hk hge
    have HPu : Hid (∀ X2, Below X.heap.size X X2 → Calls Tryz.prog 50 #[.pointer (some ⟨d, 0, none⟩), .agg #[.int .i64 sc, .int .i64 id, .string nm], .agg #[.int .i64 rs, .func (.func g) #[] cap, .bool xb, .bool yb, .string fs], .string vl] X2 fun e w' => PutP X2 d b n (putF L sc id nm vl r.kd) e w') := fun X2 hX2 => put_any (HTb.out.more (bst HX.out.below hX2)) (HE.out.below (bst HX.out.below hX2)) HN.out HW.out vl hv HG.out.few (rowO_mem HR.out).1 (HKk.out.keep fun _ _ _ h => kpO hX2 h)
    have HRes := hidK (setF_ok HR.out HP.out L vl)
    obtain ⟨⟨L', c'⟩, hPV⟩ : ∃ x, putF L sc id nm vl r.kd = x := ⟨_, rfl⟩
    rw [hPV] at HPu HRes
    clear hv hPV
    go_wp2_with fail
    refine (HPu.out _ (Below.refl _ _)).mono ?_
    rintro e Z2 ⟨rfl, hz⟩
    have HZ2 := hidK hz
    clear hz
    go_wp2_with fail
    go_ret
    obtain ⟨n', h1, h2⟩ := HZ2.out
    rw [HRes.out]
    exact ⟨rfl, n', h1, h2.back HX.out.below⟩
  · obtain ⟨pc, hpc⟩ : ∃ x, placeF sc id nm = x := ⟨_, rfl⟩
    rw [hpc] at hpl ⊢
    have hpc2 : (pc == 0) = false := by simpa using hpl
    have HRes := hidK (setF_no hpc hpl L vl)
    clear hF hpc
    go_wp2_with fail
    go_ret
    rw [HRes.out]
    exact PutP.same HTb.out rfl (HZ.out.below.alloc HZ.out.below.size _)
set_option maxHeartbeats 16000000 in
theorem unset_any {w : World} {d b n : Nat} {L : List Ent} (h : Tb w d b n L) (hE : Env w) (hG : Good L) (hn : n < maxLen) {sc id : Int} {nm : ByteArray} (hw : keyWf sc id nm) :
    Calls Tryz.prog 32 #[.pointer (some ⟨d, 0, none⟩), .int .i64 sc, .int .i64 id, .string nm] w fun e w' => PutP w d b n (unsetF L sc id nm) e w' := by
  have HTb := hidK h
  have HE := hidK hE
  have HG := hidK hG
  have HN := hidK hn
  have HW := hidK hw
  have HFi : Hid (∀ X, Calls Tryz.prog 49 #[.agg #[.int .i64 sc, .int .i64 id, .string nm]] X fun e w' => Fnd X sc id nm e w') := fun X => find_any sc id nm hw.2.2
  have HSl : Hid (∀ X, Calls Tryz.prog 48 #[.int .i64 sc, .int .i64 id, .string nm] X fun r w' => r = .returned (.agg #[.int .i64 sc, .int .i64 id, .string nm]) ∧ Below X.heap.size X w') := fun X => slotOf_any sc id nm X
  have hrs := run_store_func
  have hrn := run_store_nil
  clear h hE hG hn hw
  go_enter Tryz.func32, Tryz.ntmps32
  go_wp2_with fail
  refine (HSl.out _).mono ?_
  rintro e Y1 ⟨rfl, hb1⟩
  obtain ⟨V, hV, av, bv, sv⟩ := two_blk (w := Y1) #[.int .i64 sc, .int .i64 id, .string nm] 69
  obtain ⟨q, hq⟩ : ∃ q, Y1.heap.size = q := ⟨_, rfl⟩
  rw [hq] at av
  have HV : Hid (Bl w V q sc id nm) := ⟨bst hb1 bv, av, by have := hb1.size; omega⟩
  have c0 := cell_at av 0
  have c1 := cell_at av 1
  have c2 := cell_at av 2
  clear hb1 av bv sv
  go_wp2_with fail
  refine (HFi.out _).mono ?_
  rintro e Z hF
  have HZ := hidK (HV.out.more hF.below)
  clear c0 c1 c2 hV hq HV HSl HFi
  rcases hF.told with ⟨r, g, cap, bk, hr, hpl, hge, hk, rfl⟩ | ⟨hpl, rfl⟩
  · clear hF
    obtain ⟨X, hX, ax, bx, sx⟩ := two_blk (w := Z) #[.int .i64 r.scope, .func (.func g) #[] cap, .bool (isTxt r.kd), .bool (isFlag r.kd), .string r.first] 51
    have HKk : Hid (KindAt X bk r.kd (.agg #[.func (.func g) #[] cap, .bool (isTxt r.kd), .bool (isFlag r.kd)])) := hk.keep fun _ _ _ h => kpO bx h
    have HX := hidK (HZ.out.more bx)
    have HR := hidK hr
    have HP := hidK hpl
    obtain ⟨qo, hqo⟩ : ∃ q, Z.heap.size = q := ⟨_, rfl⟩
    rw [hqo] at ax
    obtain ⟨rs, hrs0⟩ : ∃ x, r.scope = x := ⟨_, rfl⟩
    obtain ⟨xb, hxb⟩ : ∃ x, isTxt r.kd = x := ⟨_, rfl⟩
    obtain ⟨yb, hyb⟩ : ∃ x, isFlag r.kd = x := ⟨_, rfl⟩
    obtain ⟨fs, hfs⟩ : ∃ x, r.first = x := ⟨_, rfl⟩
    rw [hxb, hyb] at HKk
    rw [hrs0, hxb, hyb, hfs] at hX ax ⊢
    have HXb := hidK hxb
    have HYb := hidK hyb
    have HFs := hidK hfs
    have c0 := cell_at HX.out.q1 0
    have c1 := cell_at HX.out.q1 1
    have c2 := cell_at HX.out.q1 2
    have x0 := cell_at ax 0
    have x1 := cell_at ax 1
    have x2 := cell_at ax 2
    have x3 := cell_at ax 3
    have x4 := cell_at ax 4
    have HAx := hidK ax
    clear hrs0 hxb hyb hfs ax bx sx hr hpl hk hge
    have HRes : Hid (unsetF L sc id nm = (L.filter (offB sc id nm), 0)) := by show unsetF _ _ _ _ = _; unfold unsetF; rw [if_neg (fun q => q HP.out)]
    have HSx : Hid (∀ Y, Bl w Y q sc id nm → Y.cell? ⟨d, 0, none⟩ = some (.map (some b)) ∧ Y.cell? ⟨q, 0, none⟩ = some (.int .i64 sc) ∧ Y.cell? ⟨q, 1, none⟩ = some (.int .i64 id) ∧ Y.cell? ⟨q, 2, none⟩ = some (.string nm)) := fun Y hY => ⟨cell_at (kpO hY.below HTb.out.blk) 0, cell_at hY.q1 0, cell_at hY.q1 1, cell_at hY.q1 2⟩
    clear c0 c1 c2 x0 x1 x2 x3 x4
    go_wp2_with fail
    refine wp_region_held_drew (S := (fun X => X.cell? ⟨d, 0, none⟩ = some (.map (some b)) ∧ X.cell? ⟨q, 0, none⟩ = some (.int .i64 sc) ∧ X.cell? ⟨q, 1, none⟩ = some (.int .i64 id) ∧ X.cell? ⟨q, 2, none⟩ = some (.string nm))) (by kernel_rfl) ?sU (fun hHeld => ?_)
    case sU => ((try dsimp only); first | exact HSx.out _ (by first | exact HX.out | exact HX.out.more (Below.refl _ _).drew) | exact HSz.out)
    have HX3 := hidK (HX.out.more (Below.refl _ _).drew)
    clear HX
    refine wpAnyH_take (i := 0) (oi := { dst := some 24, op := Op.move (Operand.tmp 0), type := 25, pos := "options.go:124", after := #[], guard := none }) (v := ?vU0n1) rfl (by kernel_rfl) (by kernel_rfl) (by kernel_rfl) (fun _ _ _ h => h) (Or.inl ⟨by rfl, ?yU0n1⟩) (by assumption) ?rU0n1
    case yU0n1 => (intro w hSw; (try dsimp only at hSw); first | (go_simp; done) | (go_simp; with_reducible rfl))
    try simp only [Act.put, List.setIfInBounds_toArray, List.set_cons_zero, List.set_cons_succ]
    refine wpAnyH_take (i := 1) (oi := { dst := some 25, op := Op.nilCheck (Operand.tmp 24), type := 0, pos := "options.go:124", after := #[{ on := 0, ground := Ground.data }], guard := none }) (v := ?vU1n2) rfl (by kernel_rfl) (by kernel_rfl) (by kernel_rfl) (fun _ _ _ h => h) (Or.inl ⟨by rfl, ?yU1n2⟩) (by assumption) ?rU1n2
    case yU1n2 => (intro w hSw; (try dsimp only at hSw); first | (go_simp; done) | (go_simp; with_reducible rfl))
    try simp only [Act.put, List.setIfInBounds_toArray, List.set_cons_zero, List.set_cons_succ]
    refine wpAnyH_take (i := 2) (oi := { dst := some 26, op := Op.fieldAddr 59 (Operand.tmp 25) 0, type := 0, pos := "options.go:124", after := #[{ on := 1, ground := Ground.data }], guard := none }) (v := ?vU2n3) rfl (by kernel_rfl) (by kernel_rfl) (by kernel_rfl) (fun _ _ _ h => h) (Or.inl ⟨by rfl, ?yU2n3⟩) (by assumption) ?rU2n3
    case yU2n3 => (intro w hSw; (try dsimp only at hSw); first | (go_simp; done) | (go_simp; with_reducible rfl))
    try simp only [Act.put, List.setIfInBounds_toArray, List.set_cons_zero, List.set_cons_succ]
    refine wpAnyH_take (i := 3) (oi := { dst := some 27, op := Op.load 57 (Operand.tmp 26), type := 57, pos := "options.go:124", after := #[{ on := 2, ground := Ground.data }], guard := none }) (v := ?vU3n4) rfl (by kernel_rfl) (by kernel_rfl) (by kernel_rfl) (fun _ _ _ h => h) (Or.inl ⟨by rfl, ?yU3n4⟩) (by assumption) ?rU3n4
    case yU3n4 => (intro w hSw; (try dsimp only at hSw); first | (go_simp; done) | (go_simp; with_reducible rfl))
    try simp only [Act.put, List.setIfInBounds_toArray, List.set_cons_zero, List.set_cons_succ]
    refine wpAnyH_take (i := 4) (oi := { dst := some 28, op := Op.load 69 (Operand.tmp 9), type := 69, pos := "options.go:124", after := #[], guard := none }) (v := ?vU4n5) rfl (by kernel_rfl) (by kernel_rfl) (by kernel_rfl) (fun _ _ _ h => h) (Or.inl ⟨by rfl, ?yU4n5⟩) (by assumption) ?rU4n5
    case yU4n5 => (intro w hSw; (try dsimp only at hSw); first | (go_simp; done) | (go_simp; with_reducible rfl))
    try simp only [Act.put, List.setIfInBounds_toArray, List.set_cons_zero, List.set_cons_succ]
    refine wpAnyH_ready (rs := [5]) (by kernel_rfl) (by simp) (AllReadyH.cons (o := { dst := none, op := Op.call { callee := Callee.builtin Builtin.delete, args := #[Operand.tmp 27, Operand.tmp 28], argTypes := #[57, 69] }, type := 0, pos := "options.go:124", after := #[{ on := 3, ground := Ground.data }, { on := 4, ground := Ground.data }], guard := none }) rfl (fun K hK => ?bUn6q0) AllReadyH.nil)
    obtain ⟨D, hD⟩ := HTb.out
    refine step_delete _ rfl (.tmp 27) (.tmp 28) rfl ?hm1 ?hx1 (hD.more HX3.out.below).own HW.out.key ?_
    case hm1 => simp [Act.eval]
    case hx1 => simp [Act.eval]; rfl
    intro w5 ho5
    have HSz : Hid (w5.cell? ⟨d, 0, none⟩ = some (.map (some b)) ∧ w5.cell? ⟨q, 0, none⟩ = some (.int .i64 sc) ∧ w5.cell? ⟨q, 1, none⟩ = some (.int .i64 id) ∧ w5.cell? ⟨q, 2, none⟩ = some (.string nm)) := hold4 HTb.out HX3.out ho5.out.2
    have HTn : Hid (Tn w w5 d b n (L.filter (offB sc id nm))) := hD.turned HX3.out.below ho5.out.1 (hD.dc.del HW.out) ho5.out.2
    clear hD
    refine hK.out _ _ ?kUn6o5 (fun hHeld6 => ?_)
    case kUn6o5 => ((try dsimp only); first | exact HSx.out _ (by first | exact HX.out | exact HX.out.more (Below.refl _ _).drew) | exact HSz.out)
    clear hK K
    try simp only [Act.put]
    refine wpAnyH_done (by kernel_rfl) ?_ _
    go_wp2_with fail
    go_ret
    rw [HRes.out]
    exact ⟨rfl, n, Nat.le_succ n, HTn.out⟩
  · obtain ⟨pc, hpc⟩ : ∃ x, placeF sc id nm = x := ⟨_, rfl⟩
    rw [hpc] at hpl ⊢
    have hpc2 : (pc == 0) = false := by simpa using hpl
    have HRes : Hid (unsetF L sc id nm = (L, pc)) := by show unsetF _ _ _ _ = _; unfold unsetF; rw [hpc, if_pos hpl]
    clear hF hpc
    go_wp2_with fail
    go_ret
    rw [HRes.out]
    exact PutP.same HTb.out rfl (HZ.out.below.alloc HZ.out.below.size _)
end Go.Proofs.YtgdkpmfdpfjdjaaGreatDoor
