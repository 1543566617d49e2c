/-
  Options: Set, Unset.
  Options: Add.
  Options: Turn.
-/
import Derived.Test.YtgdkpmfdpfjdjaaGreatDoorHY
import Derived.Deep.DeepCutAuto
namespace Go.Proofs.YtgdkpmfdpfjdjaaGreatDoor
open Go.RowKit Go.Maps
set_option linter.unusedVariables false
set_option maxRecDepth 100000

set_option maxHeartbeats 16000000 in
theorem set_any {w : World} {d b n : Nat} {L : List Ent} (h : Tb w d b n L) (hE : Env w) (hG : Good L) (hn : n < maxLen) {sc id : Int} {nm : ByteArray} (hw : keyWf sc id nm) (vl : ByteArray) (hv : vl.size ≤ 140737488355328) :
    Calls Tryz.prog 26 #[.pointer (some ⟨d, 0, none⟩), .int .i64 sc, .int .i64 id, .string nm, .string vl] w fun e w' => PutP w d b n (setF L sc id nm vl) e w' := by
  have HTb := hidK h
  have HE := hidK hE
  have HG := hidK hG
  have HN := hidK hn
  have HW := hidK hw
  have HFi : Hid (∀ X, Calls Tryz.prog 49 #[.agg #[.int .i64 sc, .int .i64 id, .string nm]] X fun e w' => Fnd X sc id nm e w') := fun X => find_any sc id nm hw.2.2
  have HSl : Hid (∀ X, Calls Tryz.prog 48 #[.int .i64 sc, .int .i64 id, .string nm] X fun r w' => r = .returned (.agg #[.int .i64 sc, .int .i64 id, .string nm]) ∧ Below X.heap.size X w') := fun X => slotOf_any sc id nm X
  have hrs := run_store_func
  have hrn := run_store_nil
  clear h hE hG hn hw
  go_enter Tryz.func26, Tryz.ntmps26
  go_wp2_with fail
  refine (HSl.out _).mono ?_
  rintro e Y1 ⟨rfl, hb1⟩
  obtain ⟨V, hV, av, bv, sv⟩ := two_blk (w := Y1) #[.int .i64 sc, .int .i64 id, .string nm] 69
  obtain ⟨q, hq⟩ : ∃ q, Y1.heap.size = q := ⟨_, rfl⟩
  rw [hq] at av
  have HV : Hid (Bl w V q sc id nm) := ⟨bst hb1 bv, av, by have := hb1.size; omega⟩
  have c0 := cell_at av 0
  have c1 := cell_at av 1
  have c2 := cell_at av 2
  clear hb1 av bv sv
  go_wp2_with fail
  refine (HFi.out _).mono ?_
  rintro e Z hF
  have HZ := hidK (HV.out.more hF.below)
  clear c0 c1 c2 hV hq HV HSl HFi
  rcases hF.told with ⟨r, g, cap, bk, hr, hpl, hge, hk, rfl⟩ | ⟨hpl, rfl⟩
  · clear hF
    obtain ⟨X, hX, ax, bx, sx⟩ := two_blk (w := Z) #[.int .i64 r.scope, .func (.func g) #[] cap, .bool (isTxt r.kd), .bool (isFlag r.kd), .string r.first] 51
    have HKk : Hid (KindAt X bk r.kd (.agg #[.func (.func g) #[] cap, .bool (isTxt r.kd), .bool (isFlag r.kd)])) := hk.keep fun _ _ _ h => kpO bx h
    have HX := hidK (HZ.out.more bx)
    have HR := hidK hr
    have HP := hidK hpl
    obtain ⟨qo, hqo⟩ : ∃ q, Z.heap.size = q := ⟨_, rfl⟩
    rw [hqo] at ax
    obtain ⟨rs, hrs0⟩ : ∃ x, r.scope = x := ⟨_, rfl⟩
    obtain ⟨xb, hxb⟩ : ∃ x, isTxt r.kd = x := ⟨_, rfl⟩
    obtain ⟨yb, hyb⟩ : ∃ x, isFlag r.kd = x := ⟨_, rfl⟩
    obtain ⟨fs, hfs⟩ : ∃ x, r.first = x := ⟨_, rfl⟩
    rw [hxb, hyb] at HKk
    rw [hrs0, hxb, hyb, hfs] at hX ax ⊢
    have HXb := hidK hxb
    have HYb := hidK hyb
    have HFs := hidK hfs
    have c0 := cell_at HX.out.q1 0
    have c1 := cell_at HX.out.q1 1
    have c2 := cell_at HX.out.q1 2
    have x0 := cell_at ax 0
    have x1 := cell_at ax 1
    have x2 := cell_at ax 2
    have x3 := cell_at ax 3
    have x4 := cell_at ax 4
    have HAx := hidK ax
    clear hrs0 hxb hyb hfs ax bx sx hr hpl hk hge
    have HPu : Hid (∀ X2, Below X.heap.size X X2 → Calls Tryz.prog 50 #[.pointer (some ⟨d, 0, none⟩), .agg #[.int .i64 sc, .int .i64 id, .string nm], .agg #[.int .i64 rs, .func (.func g) #[] cap, .bool xb, .bool yb, .string fs], .string vl] X2 fun e w' => PutP X2 d b n (putF L sc id nm vl r.kd) e w') := fun X2 hX2 => put_any (HTb.out.more (bst HX.out.below hX2)) (HE.out.below (bst HX.out.below hX2)) HN.out HW.out vl hv HG.out.few (rowO_mem HR.out).1 (HKk.out.keep fun _ _ _ h => kpO hX2 h)
    have HRes := hidK (setF_ok HR.out HP.out L vl)
    obtain ⟨⟨L', c'⟩, hPV⟩ : ∃ x, putF L sc id nm vl r.kd = x := ⟨_, rfl⟩
    rw [hPV] at HPu HRes
    clear hv hPV
    go_wp2_with fail
    refine (HPu.out _ (Below.refl _ _)).mono ?_
    rintro e Z2 ⟨rfl, hz⟩
    have HZ2 := hidK hz
    clear hz
    go_wp2_with fail
    go_ret
    obtain ⟨n', h1, h2⟩ := HZ2.out
    rw [HRes.out]
    exact ⟨rfl, n', h1, h2.back HX.out.below⟩
  · obtain ⟨pc, hpc⟩ : ∃ x, placeF sc id nm = x := ⟨_, rfl⟩
    rw [hpc] at hpl ⊢
    have hpc2 : (pc == 0) = false := by simpa using hpl
    have HRes := hidK (setF_no hpc hpl L vl)
    clear hF hpc
    go_wp2_with fail
    go_ret
    rw [HRes.out]
    exact PutP.same HTb.out rfl (HZ.out.below.alloc HZ.out.below.size _)
set_option maxHeartbeats 16000000 in
theorem unset_any {w : World} {d b n : Nat} {L : List Ent} (h : Tb w d b n L) (hE : Env w) (hG : Good L) (hn : n < maxLen) {sc id : Int} {nm : ByteArray} (hw : keyWf sc id nm) :
    Calls Tryz.prog 32 #[.pointer (some ⟨d, 0, none⟩), .int .i64 sc, .int .i64 id, .string nm] w fun e w' => PutP w d b n (unsetF L sc id nm) e w' := by
  have HTb := hidK h
  have HE := hidK hE
  have HG := hidK hG
  have HN := hidK hn
  have HW := hidK hw
  have HFi : Hid (∀ X, Calls Tryz.prog 49 #[.agg #[.int .i64 sc, .int .i64 id, .string nm]] X fun e w' => Fnd X sc id nm e w') := fun X => find_any sc id nm hw.2.2
  have HSl : Hid (∀ X, Calls Tryz.prog 48 #[.int .i64 sc, .int .i64 id, .string nm] X fun r w' => r = .returned (.agg #[.int .i64 sc, .int .i64 id, .string nm]) ∧ Below X.heap.size X w') := fun X => slotOf_any sc id nm X
  have hrs := run_store_func
  have hrn := run_store_nil
  clear h hE hG hn hw
  go_enter Tryz.func32, Tryz.ntmps32
  go_wp2_with fail
  refine (HSl.out _).mono ?_
  rintro e Y1 ⟨rfl, hb1⟩
  obtain ⟨V, hV, av, bv, sv⟩ := two_blk (w := Y1) #[.int .i64 sc, .int .i64 id, .string nm] 69
  obtain ⟨q, hq⟩ : ∃ q, Y1.heap.size = q := ⟨_, rfl⟩
  rw [hq] at av
  have HV : Hid (Bl w V q sc id nm) := ⟨bst hb1 bv, av, by have := hb1.size; omega⟩
  have c0 := cell_at av 0
  have c1 := cell_at av 1
  have c2 := cell_at av 2
  clear hb1 av bv sv
  go_wp2_with fail
  refine (HFi.out _).mono ?_
  rintro e Z hF
  have HZ := hidK (HV.out.more hF.below)
  clear c0 c1 c2 hV hq HV HSl HFi
  rcases hF.told with ⟨r, g, cap, bk, hr, hpl, hge, hk, rfl⟩ | ⟨hpl, rfl⟩
  · clear hF
    obtain ⟨X, hX, ax, bx, sx⟩ := two_blk (w := Z) #[.int .i64 r.scope, .func (.func g) #[] cap, .bool (isTxt r.kd), .bool (isFlag r.kd), .string r.first] 51
    have HKk : Hid (KindAt X bk r.kd (.agg #[.func (.func g) #[] cap, .bool (isTxt r.kd), .bool (isFlag r.kd)])) := hk.keep fun _ _ _ h => kpO bx h
    have HX := hidK (HZ.out.more bx)
    have HR := hidK hr
    have HP := hidK hpl
    obtain ⟨qo, hqo⟩ : ∃ q, Z.heap.size = q := ⟨_, rfl⟩
    rw [hqo] at ax
    obtain ⟨rs, hrs0⟩ : ∃ x, r.scope = x := ⟨_, rfl⟩
    obtain ⟨xb, hxb⟩ : ∃ x, isTxt r.kd = x := ⟨_, rfl⟩
    obtain ⟨yb, hyb⟩ : ∃ x, isFlag r.kd = x := ⟨_, rfl⟩
    obtain ⟨fs, hfs⟩ : ∃ x, r.first = x := ⟨_, rfl⟩
    rw [hxb, hyb] at HKk
    rw [hrs0, hxb, hyb, hfs] at hX ax ⊢
    have HXb := hidK hxb
    have HYb := hidK hyb
    have HFs := hidK hfs
    have c0 := cell_at HX.out.q1 0
    have c1 := cell_at HX.out.q1 1
    have c2 := cell_at HX.out.q1 2
    have x0 := cell_at ax 0
    have x1 := cell_at ax 1
    have x2 := cell_at ax 2
    have x3 := cell_at ax 3
    have x4 := cell_at ax 4
    have HAx := hidK ax
    clear hrs0 hxb hyb hfs ax bx sx hr hpl hk hge
    have HRes : Hid (unsetF L sc id nm = (L.filter (offB sc id nm), 0)) := by show unsetF _ _ _ _ = _; unfold unsetF; rw [if_neg (fun q => q HP.out)]
    have HSx : Hid (∀ Y, Bl w Y q sc id nm → Y.cell? ⟨d, 0, none⟩ = some (.map (some b)) ∧ Y.cell? ⟨q, 0, none⟩ = some (.int .i64 sc) ∧ Y.cell? ⟨q, 1, none⟩ = some (.int .i64 id) ∧ Y.cell? ⟨q, 2, none⟩ = some (.string nm)) := fun Y hY => ⟨cell_at (kpO hY.below HTb.out.blk) 0, cell_at hY.q1 0, cell_at hY.q1 1, cell_at hY.q1 2⟩
    clear c0 c1 c2 x0 x1 x2 x3 x4
    go_wp2_with fail
    refine wp_region_held_drew (S := (fun X => X.cell? ⟨d, 0, none⟩ = some (.map (some b)) ∧ X.cell? ⟨q, 0, none⟩ = some (.int .i64 sc) ∧ X.cell? ⟨q, 1, none⟩ = some (.int .i64 id) ∧ X.cell? ⟨q, 2, none⟩ = some (.string nm))) (by kernel_rfl) ?sU (fun hHeld => ?_)
    case sU => ((try dsimp only); first | exact HSx.out _ (by first | exact HX.out | exact HX.out.more (Below.refl _ _).drew) | exact HSz.out)
    have HX3 := hidK (HX.out.more (Below.refl _ _).drew)
    clear HX
    refine wpAnyH_take (i := 0) (oi := { dst := some 24, op := Op.move (Operand.tmp 0), type := 25, pos := "options.go:124", after := #[], guard := none }) (v := ?vU0n1) rfl (by kernel_rfl) (by kernel_rfl) (by kernel_rfl) (fun _ _ _ h => h) (Or.inl ⟨by rfl, ?yU0n1⟩) (by assumption) ?rU0n1
    case yU0n1 => (intro w hSw; (try dsimp only at hSw); first | (go_simp; done) | (go_simp; with_reducible rfl))
    try simp only [Act.put, List.setIfInBounds_toArray, List.set_cons_zero, List.set_cons_succ]
    refine wpAnyH_take (i := 1) (oi := { dst := some 25, op := Op.nilCheck (Operand.tmp 24), type := 0, pos := "options.go:124", after := #[{ on := 0, ground := Ground.data }], guard := none }) (v := ?vU1n2) rfl (by kernel_rfl) (by kernel_rfl) (by kernel_rfl) (fun _ _ _ h => h) (Or.inl ⟨by rfl, ?yU1n2⟩) (by assumption) ?rU1n2
    case yU1n2 => (intro w hSw; (try dsimp only at hSw); first | (go_simp; done) | (go_simp; with_reducible rfl))
    try simp only [Act.put, List.setIfInBounds_toArray, List.set_cons_zero, List.set_cons_succ]
    refine wpAnyH_take (i := 2) (oi := { dst := some 26, op := Op.fieldAddr 59 (Operand.tmp 25) 0, type := 0, pos := "options.go:124", after := #[{ on := 1, ground := Ground.data }], guard := none }) (v := ?vU2n3) rfl (by kernel_rfl) (by kernel_rfl) (by kernel_rfl) (fun _ _ _ h => h) (Or.inl ⟨by rfl, ?yU2n3⟩) (by assumption) ?rU2n3
    case yU2n3 => (intro w hSw; (try dsimp only at hSw); first | (go_simp; done) | (go_simp; with_reducible rfl))
    try simp only [Act.put, List.setIfInBounds_toArray, List.set_cons_zero, List.set_cons_succ]
    refine wpAnyH_take (i := 3) (oi := { dst := some 27, op := Op.load 57 (Operand.tmp 26), type := 57, pos := "options.go:124", after := #[{ on := 2, ground := Ground.data }], guard := none }) (v := ?vU3n4) rfl (by kernel_rfl) (by kernel_rfl) (by kernel_rfl) (fun _ _ _ h => h) (Or.inl ⟨by rfl, ?yU3n4⟩) (by assumption) ?rU3n4
    case yU3n4 => (intro w hSw; (try dsimp only at hSw); first | (go_simp; done) | (go_simp; with_reducible rfl))
    try simp only [Act.put, List.setIfInBounds_toArray, List.set_cons_zero, List.set_cons_succ]
    refine wpAnyH_take (i := 4) (oi := { dst := some 28, op := Op.load 69 (Operand.tmp 9), type := 69, pos := "options.go:124", after := #[], guard := none }) (v := ?vU4n5) rfl (by kernel_rfl) (by kernel_rfl) (by kernel_rfl) (fun _ _ _ h => h) (Or.inl ⟨by rfl, ?yU4n5⟩) (by assumption) ?rU4n5
    case yU4n5 => (intro w hSw; (try dsimp only at hSw); first | (go_simp; done) | (go_simp; with_reducible rfl))
    try simp only [Act.put, List.setIfInBounds_toArray, List.set_cons_zero, List.set_cons_succ]
    refine wpAnyH_ready (rs := [5]) (by kernel_rfl) (by simp) (AllReadyH.cons (o := { dst := none, op := Op.call { callee := Callee.builtin Builtin.delete, args := #[Operand.tmp 27, Operand.tmp 28], argTypes := #[57, 69] }, type := 0, pos := "options.go:124", after := #[{ on := 3, ground := Ground.data }, { on := 4, ground := Ground.data }], guard := none }) rfl (fun K hK => ?bUn6q0) AllReadyH.nil)
    obtain ⟨D, hD⟩ := HTb.out
    refine step_delete _ rfl (.tmp 27) (.tmp 28) rfl ?hm1 ?hx1 (hD.more HX3.out.below).own HW.out.key ?_
    case hm1 => simp [Act.eval]
    case hx1 => simp [Act.eval]; rfl
    intro w5 ho5
    have HSz : Hid (w5.cell? ⟨d, 0, none⟩ = some (.map (some b)) ∧ w5.cell? ⟨q, 0, none⟩ = some (.int .i64 sc) ∧ w5.cell? ⟨q, 1, none⟩ = some (.int .i64 id) ∧ w5.cell? ⟨q, 2, none⟩ = some (.string nm)) := hold4 HTb.out HX3.out ho5.out.2
    have HTn : Hid (Tn w w5 d b n (L.filter (offB sc id nm))) := hD.turned HX3.out.below ho5.out.1 (hD.dc.del HW.out) ho5.out.2
    clear hD
    refine hK.out _ _ ?kUn6o5 (fun hHeld6 => ?_)
    case kUn6o5 => ((try dsimp only); first | exact HSx.out _ (by first | exact HX.out | exact HX.out.more (Below.refl _ _).drew) | exact HSz.out)
    clear hK K
    try simp only [Act.put]
    refine wpAnyH_done (by kernel_rfl) ?_ _
    go_wp2_with fail
    go_ret
    rw [HRes.out]
    exact ⟨rfl, n, Nat.le_succ n, HTn.out⟩
  · obtain ⟨pc, hpc⟩ : ∃ x, placeF sc id nm = x := ⟨_, rfl⟩
    rw [hpc] at hpl ⊢
    have hpc2 : (pc == 0) = false := by simpa using hpl
    have HRes : Hid (unsetF L sc id nm = (L, pc)) := by show unsetF _ _ _ _ = _; unfold unsetF; rw [hpc, if_pos hpl]
    clear hF hpc
    go_wp2_with fail
    go_ret
    rw [HRes.out]
    exact PutP.same HTb.out rfl (HZ.out.below.alloc HZ.out.below.size _)
end Go.Proofs.YtgdkpmfdpfjdjaaGreatDoor

namespace Go.Proofs.YtgdkpmfdpfjdjaaGreatDoor
open Go.RowKit Go.Maps
set_option linter.unusedVariables false
set_option maxRecDepth 100000

theorem Tn.far {w w' : World} {d b n n0 : Nat} {L L0 : List Ent} (h0 : Tb w d b n0 L0) (h : Tn w w' d b n L) {q : Nat} {cs : Array Value} {T : TypeId} (hq : w.heap[q]? = some (.cells cs T (0, 0))) : w'.heap[q]? = some (.cells cs T (0, 0)) :=
  (h.but.block q (lt_block hq) fun hh => by
    obtain ⟨D, hD⟩ := h0
    obtain ⟨es, clock, hb, _⟩ := hD.own
    rw [List.mem_singleton] at hh
    rw [hh, hb] at hq
    cases hq).trans hq
theorem add_hold {w X Y Z : World} {d b n : Nat} {L L' : List Ent} {q qo : Nat} {sc id rs : Int} {nm fs : ByteArray} {f : Value} {xb yb : Bool} (h : Tb w d b n L) (hx : Below w.heap.size w X) (hy : Below X.heap.size X Y)
    (h1 : X.heap[q]? = some (.cells #[.int .i64 sc, .int .i64 id, .string nm] 69 (0, 0))) (h2 : X.heap[qo]? = some (.cells #[.int .i64 rs, f, .bool xb, .bool yb, .string fs] 51 (0, 0))) (hz : ∃ n', n' ≤ n + 1 ∧ Tn Y Z d b n' L') :
    Z.cell? ⟨q, 0, none⟩ = some (.int .i64 sc) ∧ Z.cell? ⟨q, 1, none⟩ = some (.int .i64 id) ∧ Z.cell? ⟨q, 2, none⟩ = some (.string nm) ∧ Z.cell? ⟨qo, 0, none⟩ = some (.int .i64 rs) ∧ Z.cell? ⟨qo, 1, none⟩ = some f ∧ Z.cell? ⟨qo, 2, none⟩ = some (.bool xb) ∧ Z.cell? ⟨qo, 3, none⟩ = some (.bool yb) ∧ Z.cell? ⟨qo, 4, none⟩ = some (.string fs) := by
  obtain ⟨n', _, ht⟩ := hz
  have e1 := ht.far (h.more (bst hx hy)) (kpO hy h1)
  have e2 := ht.far (h.more (bst hx hy)) (kpO hy h2)
  exact ⟨cell_at e1 0, cell_at e1 1, cell_at e1 2, cell_at e2 0, cell_at e2 1, cell_at e2 2, cell_at e2 3, cell_at e2 4⟩
set_option maxHeartbeats 16000000 in
theorem add_any {w : World} {d b n : Nat} {L : List Ent} (h : Tb w d b n L) (hE : Env w) (hG : Good L) (hn : n < maxLen) {sc id : Int} {nm : ByteArray} (hw : keyWf sc id nm) (vl : ByteArray) (hv : vl.size ≤ 140737488351232) :
    Calls Tryz.prog 28 #[.pointer (some ⟨d, 0, none⟩), .int .i64 sc, .int .i64 id, .string nm, .string vl] w fun e w' => PutP w d b n (addF L sc id nm vl) e w' := by
  have HTb := hidK h
  have HE := hidK hE
  have HG := hidK hG
  have HN := hidK hn
  have HW := hidK hw
  have HFi : Hid (∀ X, Calls Tryz.prog 49 #[.agg #[.int .i64 sc, .int .i64 id, .string nm]] X fun e w' => Fnd X sc id nm e w') := fun X => find_any sc id nm hw.2.2
  have HSl : Hid (∀ X, Calls Tryz.prog 48 #[.int .i64 sc, .int .i64 id, .string nm] X fun r w' => r = .returned (.agg #[.int .i64 sc, .int .i64 id, .string nm]) ∧ Below X.heap.size X w') := fun X => slotOf_any sc id nm X
  have hrs := run_store_func
  have hrn := run_store_nil
  clear h hE hG hn hw
  go_enter Tryz.func28, Tryz.ntmps28
  go_wp2_with fail
  refine (HSl.out _).mono ?_
  rintro e Y1 ⟨rfl, hb1⟩
  obtain ⟨V, hV, av, bv, sv⟩ := two_blk (w := Y1) #[.int .i64 sc, .int .i64 id, .string nm] 69
  obtain ⟨q, hq⟩ : ∃ q, Y1.heap.size = q := ⟨_, rfl⟩
  rw [hq] at av
  have HV : Hid (Bl w V q sc id nm) := ⟨bst hb1 bv, av, by have := hb1.size; omega⟩
  have c0 := cell_at av 0
  have c1 := cell_at av 1
  have c2 := cell_at av 2
  clear hb1 av bv sv
  go_wp2_with fail
  refine (HFi.out _).mono ?_
  rintro e Z hF
  have HZ := hidK (HV.out.more hF.below)
  clear c0 c1 c2 hV hq HV HSl HFi
  rcases hF.told with ⟨r, g, cap, bk, hr, hpl, hge, hk, rfl⟩ | ⟨hpl, rfl⟩
  · clear hF
    obtain ⟨X, hX, ax, bx, sx⟩ := two_blk (w := Z) #[.int .i64 r.scope, .func (.func g) #[] cap, .bool (isTxt r.kd), .bool (isFlag r.kd), .string r.first] 51
    have HKk : Hid (KindAt X bk r.kd (.agg #[.func (.func g) #[] cap, .bool (isTxt r.kd), .bool (isFlag r.kd)])) := hk.keep fun _ _ _ h => kpO bx h
    have HX := hidK (HZ.out.more bx)
    have HR := hidK hr
    have HP := hidK hpl
    obtain ⟨qo, hqo⟩ : ∃ q, Z.heap.size = q := ⟨_, rfl⟩
    rw [hqo] at ax
    obtain ⟨rs, hrs0⟩ : ∃ x, r.scope = x := ⟨_, rfl⟩
    obtain ⟨xb, hxb⟩ : ∃ x, isTxt r.kd = x := ⟨_, rfl⟩
    obtain ⟨yb, hyb⟩ : ∃ x, isFlag r.kd = x := ⟨_, rfl⟩
    obtain ⟨fs, hfs⟩ : ∃ x, r.first = x := ⟨_, rfl⟩
    rw [hxb, hyb] at HKk
    rw [hrs0, hxb, hyb, hfs] at hX ax ⊢
    have HXb := hidK hxb
    have HYb := hidK hyb
    have HFs := hidK hfs
    have c0 := cell_at HX.out.q1 0
    have c1 := cell_at HX.out.q1 1
    have c2 := cell_at HX.out.q1 2
    have x0 := cell_at ax 0
    have x1 := cell_at ax 1
    have x2 := cell_at ax 2
    have x3 := cell_at ax 3
    have x4 := cell_at ax 4
    have HAx := hidK ax
    clear hrs0 hxb hyb hfs ax bx sx hr hpl hk hge
    cases xb with
    | false =>
      have HRes : Hid (addF L sc id nm vl = (L, 125)) := (addF_ok HR.out HP.out L vl).trans (by rw [HXb.out]; rfl)
      go_wp2_with fail
      go_ret
      rw [HRes.out]
      exact PutP.same HTb.out rfl HX.out.below
    | true =>
      have HRes : Hid (addF L sc id nm vl = putF L sc id nm ((atF L sc id nm).getD fs ++ vl) r.kd) := (addF_ok HR.out HP.out L vl).trans (by rw [HXb.out, HFs.out]; rfl)
      have HVa : Hid (∀ X2, Below X.heap.size X X2 → Calls Tryz.prog 54 #[.pointer (some ⟨d, 0, none⟩), .agg #[.int .i64 sc, .int .i64 id, .string nm], .agg #[.int .i64 rs, .func (.func g) #[] cap, .bool true, .bool yb, .string fs]] X2 fun e w' => e = .returned (.string ((atF L sc id nm).getD fs)) ∧ Below X2.heap.size X2 w') := fun X2 hX2 => value_any (HTb.out.more (bst HX.out.below hX2)) HW.out
      have hsz : ((atF L sc id nm).getD fs).size ≤ 1024 := by
        have := now_short HG.out (sc := sc) (id := id) HR.out HXb.out
        rw [HFs.out] at this
        exact this
      obtain ⟨nv, hnv⟩ : ∃ x, (atF L sc id nm).getD fs = x := ⟨_, rfl⟩
      rw [hnv] at HRes HVa hsz
      have hvs : (nv ++ vl).size ≤ 140737488355328 := by rw [ByteArray.size_append]; omega
      have HPu : Hid (∀ X2, Below X.heap.size X X2 → Calls Tryz.prog 50 #[.pointer (some ⟨d, 0, none⟩), .agg #[.int .i64 sc, .int .i64 id, .string nm], .agg #[.int .i64 rs, .func (.func g) #[] cap, .bool true, .bool yb, .string fs], .string (nv ++ vl)] X2 fun e w' => PutP X2 d b n (putF L sc id nm (nv ++ vl) r.kd) e w') := fun X2 hX2 => put_any (HTb.out.more (bst HX.out.below hX2)) (HE.out.below (bst HX.out.below hX2)) HN.out HW.out (nv ++ vl) hvs HG.out.few (rowO_mem HR.out).1 (HKk.out.keep fun _ _ _ h => kpO hX2 h)
      have HSx : Hid (∀ Y, Below X.heap.size X Y → Y.cell? ⟨q, 0, none⟩ = some (.int .i64 sc) ∧ Y.cell? ⟨q, 1, none⟩ = some (.int .i64 id) ∧ Y.cell? ⟨q, 2, none⟩ = some (.string nm) ∧ Y.cell? ⟨qo, 0, none⟩ = some (.int .i64 rs) ∧ Y.cell? ⟨qo, 1, none⟩ = some (.func (.func g) #[] cap) ∧ Y.cell? ⟨qo, 2, none⟩ = some (.bool true) ∧ Y.cell? ⟨qo, 3, none⟩ = some (.bool yb) ∧ Y.cell? ⟨qo, 4, none⟩ = some (.string fs)) := fun Y hY => by
        have e1 := kpO hY HX.out.q1
        have e2 := kpO hY HAx.out
        exact ⟨cell_at e1 0, cell_at e1 1, cell_at e1 2, cell_at e2 0, cell_at e2 1, cell_at e2 2, cell_at e2 3, cell_at e2 4⟩
      have HBx := hidK (Below.refl X.heap.size X)
      obtain ⟨⟨L', c'⟩, hPV⟩ : ∃ x, putF L sc id nm (nv ++ vl) r.kd = x := ⟨_, rfl⟩
      rw [hPV] at HPu HRes
      have hcat : ¬ 9223372036854775807 < nv.size + vl.size := by omega
      clear hv hPV hvs hsz hnv
      go_upto_region 7 with fail
      clear c0 c1 c2 x0 x1 x2 x3 x4
      refine wp_region_held_drew (S := (fun X => X.cell? ⟨q, 0, none⟩ = some (.int .i64 sc) ∧ X.cell? ⟨q, 1, none⟩ = some (.int .i64 id) ∧ X.cell? ⟨q, 2, none⟩ = some (.string nm) ∧ X.cell? ⟨qo, 0, none⟩ = some (.int .i64 rs) ∧ X.cell? ⟨qo, 1, none⟩ = some (.func (.func g) #[] cap) ∧ X.cell? ⟨qo, 2, none⟩ = some (.bool true) ∧ X.cell? ⟨qo, 3, none⟩ = some (.bool yb) ∧ X.cell? ⟨qo, 4, none⟩ = some (.string fs))) (by kernel_rfl) ?sA (fun hHeld => ?_)
      case sA => ((try dsimp only); first | exact HSx.out _ (by first | exact HBx.out | exact HBx.out.drew) | exact HSz.out)
      have HBn := hidK HBx.out.drew
      clear HBx
      have HBx := hidK HBn.out
      clear HBn
      refine wpAnyH_take (i := 0) (oi := { dst := some 32, op := Op.move (Operand.tmp 0), type := 25, pos := "options.go:79", after := #[], guard := none }) (v := ?vA0n1) rfl (by kernel_rfl) (by kernel_rfl) (by kernel_rfl) (fun _ _ _ h => h) (Or.inl ⟨by rfl, ?yA0n1⟩) (by assumption) ?rA0n1
      case yA0n1 => (intro w hSw; (try dsimp only at hSw); first | (go_simp; done) | (go_simp; with_reducible rfl))
      try simp only [Act.put, List.setIfInBounds_toArray, List.set_cons_zero, List.set_cons_succ]
      refine wpAnyH_take (i := 1) (oi := { dst := some 33, op := Op.load 69 (Operand.tmp 11), type := 69, pos := "options.go:79", after := #[], guard := none }) (v := ?vA1n2) rfl (by kernel_rfl) (by kernel_rfl) (by kernel_rfl) (fun _ _ _ h => h) (Or.inl ⟨by rfl, ?yA1n2⟩) (by assumption) ?rA1n2
      case yA1n2 => (intro w hSw; (try dsimp only at hSw); first | (go_simp; done) | (go_simp; with_reducible rfl))
      try simp only [Act.put, List.setIfInBounds_toArray, List.set_cons_zero, List.set_cons_succ]
      refine wpAnyH_take (i := 2) (oi := { dst := some 34, op := Op.load 51 (Operand.tmp 12), type := 51, pos := "options.go:79", after := #[], guard := none }) (v := ?vA2n3) rfl (by kernel_rfl) (by kernel_rfl) (by kernel_rfl) (fun _ _ _ h => h) (Or.inl ⟨by rfl, ?yA2n3⟩) (by assumption) ?rA2n3
      case yA2n3 => (intro w hSw; (try dsimp only at hSw); first | (go_simp; done) | (go_simp; with_reducible rfl))
      try simp only [Act.put, List.setIfInBounds_toArray, List.set_cons_zero, List.set_cons_succ]
      refine wpAnyH_take (i := 3) (oi := { dst := some 35, op := Op.move (Operand.tmp 0), type := 25, pos := "options.go:79", after := #[], guard := none }) (v := ?vA3n4) rfl (by kernel_rfl) (by kernel_rfl) (by kernel_rfl) (fun _ _ _ h => h) (Or.inl ⟨by rfl, ?yA3n4⟩) (by assumption) ?rA3n4
      case yA3n4 => (intro w hSw; (try dsimp only at hSw); first | (go_simp; done) | (go_simp; with_reducible rfl))
      try simp only [Act.put, List.setIfInBounds_toArray, List.set_cons_zero, List.set_cons_succ]
      refine wpAnyH_take (i := 4) (oi := { dst := some 36, op := Op.load 69 (Operand.tmp 11), type := 69, pos := "options.go:79", after := #[], guard := none }) (v := ?vA4n5) rfl (by kernel_rfl) (by kernel_rfl) (by kernel_rfl) (fun _ _ _ h => h) (Or.inl ⟨by rfl, ?yA4n5⟩) (by assumption) ?rA4n5
      case yA4n5 => (intro w hSw; (try dsimp only at hSw); first | (go_simp; done) | (go_simp; with_reducible rfl))
      try simp only [Act.put, List.setIfInBounds_toArray, List.set_cons_zero, List.set_cons_succ]
      refine wpAnyH_take (i := 5) (oi := { dst := some 37, op := Op.load 51 (Operand.tmp 12), type := 51, pos := "options.go:79", after := #[], guard := none }) (v := ?vA5n6) rfl (by kernel_rfl) (by kernel_rfl) (by kernel_rfl) (fun _ _ _ h => h) (Or.inl ⟨by rfl, ?yA5n6⟩) (by assumption) ?rA5n6
      case yA5n6 => (intro w hSw; (try dsimp only at hSw); first | (go_simp; done) | (go_simp; with_reducible rfl))
      try simp only [Act.put, List.setIfInBounds_toArray, List.set_cons_zero, List.set_cons_succ]
      refine wpAnyH_take (i := 7) (oi := { dst := some 39, op := Op.move (Operand.tmp 4), type := 9, pos := "options.go:79", after := #[], guard := none }) (v := ?vA7n7) rfl (by kernel_rfl) (by kernel_rfl) (by kernel_rfl) (fun _ _ _ h => h) (Or.inl ⟨by rfl, ?yA7n7⟩) (by assumption) ?rA7n7
      case yA7n7 => (intro w hSw; (try dsimp only at hSw); first | (go_simp; done) | (go_simp; with_reducible rfl))
      try simp only [Act.put, List.setIfInBounds_toArray, List.set_cons_zero, List.set_cons_succ]
      refine wpAnyH_ready (rs := [6]) (by kernel_rfl) (by simp) (AllReadyH.cons (o := { dst := some 38, op := Op.call { callee := Callee.value (Operand.func 54), args := #[Operand.tmp 35, Operand.tmp 36, Operand.tmp 37], argTypes := #[25, 69, 51] }, type := 9, pos := "options.go:79", after := #[{ on := 3, ground := Ground.data }, { on := 4, ground := Ground.data }, { on := 5, ground := Ground.data }], guard := none }) rfl (fun K hK => ?bAn8q0) AllReadyH.nil)
      go_simp
      go_wp2_with (refine (HVa.out _ HBx.out).mono ?_; rintro e Y2 ⟨rfl, hb⟩; have HBn := hidK (bst HBx.out hb); clear hb HBx; have HBx := hidK HBn.out; clear HBn)
      refine hK.out _ _ ?kAn8o6 (fun hHeld8 => ?_)
      case kAn8o6 => ((try dsimp only); first | exact HSx.out _ (by first | exact HBx.out | exact HBx.out.drew) | exact HSz.out)
      clear hK K
      try simp only [Act.put, List.setIfInBounds_toArray, List.set_cons_zero, List.set_cons_succ]
      refine wpAnyH_take (i := 8) (oi := { dst := some 40, op := Op.binOp BinOp.add 9 (Operand.tmp 38) (Operand.tmp 39) 9, type := 9, pos := "options.go:79", after := #[{ on := 6, ground := Ground.data }, { on := 7, ground := Ground.data }], guard := none }) (v := ?vA8n9) rfl (by kernel_rfl) (by kernel_rfl) (by kernel_rfl) (fun _ _ _ h => h) (Or.inl ⟨by rfl, ?yA8n9⟩) (by assumption) ?rA8n9
      case yA8n9 => (intro w hSw; (try dsimp only at hSw); first | (go_simp; done) | (go_simp; with_reducible rfl))
      try simp only [Act.put, List.setIfInBounds_toArray, List.set_cons_zero, List.set_cons_succ]
      refine wpAnyH_ready (rs := [9]) (by kernel_rfl) (by simp) (AllReadyH.cons (o := { dst := some 41, op := Op.call { callee := Callee.value (Operand.func 50), args := #[Operand.tmp 32, Operand.tmp 33, Operand.tmp 34, Operand.tmp 40], argTypes := #[25, 69, 51, 9] }, type := 27, pos := "options.go:79", after := #[{ on := 0, ground := Ground.data }, { on := 1, ground := Ground.data }, { on := 2, ground := Ground.data }, { on := 8, ground := Ground.data }, { on := 6, ground := Ground.chain }], guard := none }) rfl (fun K hK => ?bAn10q0) AllReadyH.nil)
      go_simp
      go_wp2_with (refine (HPu.out _ HBx.out).mono ?_; rintro e Z2 ⟨rfl, hz⟩; have HZ2 := hidK hz; clear hz; have HSz : Hid (Z2.cell? ⟨q, 0, none⟩ = some (.int .i64 sc) ∧ Z2.cell? ⟨q, 1, none⟩ = some (.int .i64 id) ∧ Z2.cell? ⟨q, 2, none⟩ = some (.string nm) ∧ Z2.cell? ⟨qo, 0, none⟩ = some (.int .i64 rs) ∧ Z2.cell? ⟨qo, 1, none⟩ = some (.func (.func g) #[] cap) ∧ Z2.cell? ⟨qo, 2, none⟩ = some (.bool true) ∧ Z2.cell? ⟨qo, 3, none⟩ = some (.bool yb) ∧ Z2.cell? ⟨qo, 4, none⟩ = some (.string fs)) := add_hold HTb.out HX.out.below HBx.out HX.out.q1 HAx.out HZ2.out)
      refine hK.out _ _ ?kAn10o9 (fun hHeld10 => ?_)
      case kAn10o9 => ((try dsimp only); first | exact HSx.out _ (by first | exact HBx.out | exact HBx.out.drew) | exact HSz.out)
      clear hK K
      try simp only [Act.put, List.setIfInBounds_toArray, List.set_cons_zero, List.set_cons_succ]
      refine wpAnyH_take (i := 10) (oi := { dst := some 10, op := Op.assign (Operand.tmp 41), type := 27, pos := "options.go:79", after := #[{ on := 9, ground := Ground.data }, { on := 9, ground := Ground.chain }, { on := 0, ground := Ground.phase }, { on := 1, ground := Ground.phase }, { on := 2, ground := Ground.phase }, { on := 3, ground := Ground.phase }, { on := 4, ground := Ground.phase }, { on := 5, ground := Ground.phase }, { on := 6, ground := Ground.phase }, { on := 7, ground := Ground.phase }, { on := 8, ground := Ground.phase }, { on := 9, ground := Ground.phase }], guard := none }) (v := ?vA10n11) rfl (by kernel_rfl) (by kernel_rfl) (by kernel_rfl) (fun _ _ _ h => h) (Or.inl ⟨by rfl, ?yA10n11⟩) (by assumption) ?rA10n11
      case yA10n11 => (intro w hSw; (try dsimp only at hSw); first | (go_simp; done) | (go_simp; with_reducible rfl))
      try simp only [Act.put, List.setIfInBounds_toArray, List.set_cons_zero, List.set_cons_succ]
      refine wpAnyH_done (by kernel_rfl) ?_ _
      go_wp2_with fail
      go_ret
      obtain ⟨n', h1, h2⟩ := HZ2.out
      rw [HRes.out]
      exact ⟨rfl, n', h1, h2.back (bst HX.out.below HBx.out)⟩
  · obtain ⟨pc, hpc⟩ : ∃ x, placeF sc id nm = x := ⟨_, rfl⟩
    rw [hpc] at hpl ⊢
    have hpc2 : (pc == 0) = false := by simpa using hpl
    have HRes := hidK (addF_no hpc hpl L vl)
    clear hF hpc
    go_wp2_with fail
    go_ret
    rw [HRes.out]
    exact PutP.same HTb.out rfl (HZ.out.below.alloc HZ.out.below.size _)
end Go.Proofs.YtgdkpmfdpfjdjaaGreatDoor

namespace Go.Proofs.YtgdkpmfdpfjdjaaGreatDoor
open Go.RowKit Go.Maps
set_option linter.unusedVariables false
set_option maxRecDepth 100000

set_option maxHeartbeats 16000000 in
theorem turn_any {w : World} {d b n : Nat} {L : List Ent} (h : Tb w d b n L) (hE : Env w) (hG : Good L) (hn : n < maxLen) {sc id : Int} {nm : ByteArray} (hw : keyWf sc id nm) :
    Calls Tryz.prog 30 #[.pointer (some ⟨d, 0, none⟩), .int .i64 sc, .int .i64 id, .string nm] w fun e w' => PutP w d b n (turnF L sc id nm) e w' := by
  have HTb := hidK h
  have HE := hidK hE
  have HG := hidK hG
  have HN := hidK hn
  have HW := hidK hw
  have HFi : Hid (∀ X, Calls Tryz.prog 49 #[.agg #[.int .i64 sc, .int .i64 id, .string nm]] X fun e w' => Fnd X sc id nm e w') := fun X => find_any sc id nm hw.2.2
  have HSl : Hid (∀ X, Calls Tryz.prog 48 #[.int .i64 sc, .int .i64 id, .string nm] X fun r w' => r = .returned (.agg #[.int .i64 sc, .int .i64 id, .string nm]) ∧ Below X.heap.size X w') := fun X => slotOf_any sc id nm X
  have hrs := run_store_func
  have hrn := run_store_nil
  clear h hE hG hn hw
  go_enter Tryz.func30, Tryz.ntmps30
  go_wp2_with fail
  refine (HSl.out _).mono ?_
  rintro e Y1 ⟨rfl, hb1⟩
  obtain ⟨V, hV, av, bv, sv⟩ := two_blk (w := Y1) #[.int .i64 sc, .int .i64 id, .string nm] 69
  obtain ⟨q, hq⟩ : ∃ q, Y1.heap.size = q := ⟨_, rfl⟩
  rw [hq] at av
  have HV : Hid (Bl w V q sc id nm) := ⟨bst hb1 bv, av, by have := hb1.size; omega⟩
  have c0 := cell_at av 0
  have c1 := cell_at av 1
  have c2 := cell_at av 2
  clear hb1 av bv sv
  go_wp2_with fail
  refine (HFi.out _).mono ?_
  rintro e Z hF
  have HZ := hidK (HV.out.more hF.below)
  clear c0 c1 c2 hV hq HV HSl HFi
  rcases hF.told with ⟨r, g, cap, bk, hr, hpl, hge, hk, rfl⟩ | ⟨hpl, rfl⟩
  · clear hF
    obtain ⟨X, hX, ax, bx, sx⟩ := two_blk (w := Z) #[.int .i64 r.scope, .func (.func g) #[] cap, .bool (isTxt r.kd), .bool (isFlag r.kd), .string r.first] 51
    have HKk : Hid (KindAt X bk r.kd (.agg #[.func (.func g) #[] cap, .bool (isTxt r.kd), .bool (isFlag r.kd)])) := hk.keep fun _ _ _ h => kpO bx h
    have HX := hidK (HZ.out.more bx)
    have HR := hidK hr
    have HP := hidK hpl
    obtain ⟨qo, hqo⟩ : ∃ q, Z.heap.size = q := ⟨_, rfl⟩
    rw [hqo] at ax
    obtain ⟨rs, hrs0⟩ : ∃ x, r.scope = x := ⟨_, rfl⟩
    obtain ⟨xb, hxb⟩ : ∃ x, isTxt r.kd = x := ⟨_, rfl⟩
    obtain ⟨yb, hyb⟩ : ∃ x, isFlag r.kd = x := ⟨_, rfl⟩
    obtain ⟨fs, hfs⟩ : ∃ x, r.first = x := ⟨_, rfl⟩
    rw [hxb, hyb] at HKk
    rw [hrs0, hxb, hyb, hfs] at hX ax ⊢
    have HXb := hidK hxb
    have HYb := hidK hyb
    have HFs := hidK hfs
    have c0 := cell_at HX.out.q1 0
    have c1 := cell_at HX.out.q1 1
    have c2 := cell_at HX.out.q1 2
    have x0 := cell_at ax 0
    have x1 := cell_at ax 1
    have x2 := cell_at ax 2
    have x3 := cell_at ax 3
    have x4 := cell_at ax 4
    have HAx := hidK ax
    clear hrs0 hxb hyb hfs ax bx sx hr hpl hk hge
    cases yb with
    | false =>
      have HRes : Hid (turnF L sc id nm = (L, 125)) := (turnF_ok HR.out HP.out L).trans (by rw [HYb.out]; rfl)
      go_wp2_with fail
      go_ret
      rw [HRes.out]
      exact PutP.same HTb.out rfl HX.out.below
    | true =>
      have HVa : Hid (∀ X2, Below X.heap.size X X2 → Calls Tryz.prog 54 #[.pointer (some ⟨d, 0, none⟩), .agg #[.int .i64 sc, .int .i64 id, .string nm], .agg #[.int .i64 rs, .func (.func g) #[] cap, .bool xb, .bool true, .string fs]] X2 fun e w' => e = .returned (.string ((atF L sc id nm).getD fs)) ∧ Below X2.heap.size X2 w') := fun X2 hX2 => value_any (HTb.out.more (bst HX.out.below hX2)) HW.out
      obtain ⟨nv, hnv⟩ : ∃ x, (atF L sc id nm).getD fs = x := ⟨_, rfl⟩
      rw [hnv] at HVa
      have HNv := hidK hnv
      clear hnv
      by_cases hon : nv = onT
      · have hb1 : (nv.toList == [111, 110]) = true := by rw [hon, Lib.toList_data]; rfl
        have HPu : Hid (∀ X2, Below X.heap.size X X2 → Calls Tryz.prog 50 #[.pointer (some ⟨d, 0, none⟩), .agg #[.int .i64 sc, .int .i64 id, .string nm], .agg #[.int .i64 rs, .func (.func g) #[] cap, .bool xb, .bool true, .string fs], .string offT] X2 fun e w' => PutP X2 d b n (putF L sc id nm offT r.kd) e w') := fun X2 hX2 => put_any (HTb.out.more (bst HX.out.below hX2)) (HE.out.below (bst HX.out.below hX2)) HN.out HW.out offT (by decide) HG.out.few (rowO_mem HR.out).1 (HKk.out.keep fun _ _ _ h => kpO hX2 h)
        have HRes : Hid (turnF L sc id nm = putF L sc id nm offT r.kd) := (turnF_ok HR.out HP.out L).trans (by rw [HYb.out, HFs.out, HNv.out]; rw [if_pos hon]; rfl)
        obtain ⟨⟨L', c'⟩, hPV⟩ : ∃ x, putF L sc id nm offT r.kd = x := ⟨_, rfl⟩
        rw [hPV] at HPu HRes
        clear hPV hon
        try unfold onT at HPu
        try unfold offT at HPu
        go_wp2_with fail
        refine (HVa.out _ (Below.refl _ _)).mono ?_
        rintro e Y2 ⟨rfl, hb⟩
        have HBx := hidK hb
        have e1 := kpO hb HX.out.q1
        have e2 := kpO hb HAx.out
        clear c0 c1 c2 x0 x1 x2 x3 x4 hb
        have c0 := cell_at e1 0
        have c1 := cell_at e1 1
        have c2 := cell_at e1 2
        have x0 := cell_at e2 0
        have x1 := cell_at e2 1
        have x2 := cell_at e2 2
        have x3 := cell_at e2 3
        have x4 := cell_at e2 4
        clear e1 e2
        go_wp2_with fail
        refine (HPu.out _ HBx.out).mono ?_
        rintro e Z2 ⟨rfl, hz⟩
        have HZ2 := hidK hz
        clear hz
        go_wp2_with fail
        go_ret
        obtain ⟨n', h1, h2⟩ := HZ2.out
        rw [HRes.out]
        exact ⟨rfl, n', h1, h2.back (bst HX.out.below HBx.out)⟩
      · have hb1 : (nv.toList == [111, 110]) = false := by
          rw [beq_eq_false_iff_ne]
          intro q
          apply hon
          rw [Lib.toList_data] at q
          exact ByteArray.ext (Array.ext' q)
        have HPu : Hid (∀ X2, Below X.heap.size X X2 → Calls Tryz.prog 50 #[.pointer (some ⟨d, 0, none⟩), .agg #[.int .i64 sc, .int .i64 id, .string nm], .agg #[.int .i64 rs, .func (.func g) #[] cap, .bool xb, .bool true, .string fs], .string onT] X2 fun e w' => PutP X2 d b n (putF L sc id nm onT r.kd) e w') := fun X2 hX2 => put_any (HTb.out.more (bst HX.out.below hX2)) (HE.out.below (bst HX.out.below hX2)) HN.out HW.out onT (by decide) HG.out.few (rowO_mem HR.out).1 (HKk.out.keep fun _ _ _ h => kpO hX2 h)
        have HRes : Hid (turnF L sc id nm = putF L sc id nm onT r.kd) := (turnF_ok HR.out HP.out L).trans (by rw [HYb.out, HFs.out, HNv.out]; rw [if_neg hon]; rfl)
        obtain ⟨⟨L', c'⟩, hPV⟩ : ∃ x, putF L sc id nm onT r.kd = x := ⟨_, rfl⟩
        rw [hPV] at HPu HRes
        clear hPV hon
        try unfold onT at HPu
        try unfold offT at HPu
        go_wp2_with fail
        refine (HVa.out _ (Below.refl _ _)).mono ?_
        rintro e Y2 ⟨rfl, hb⟩
        have HBx := hidK hb
        have e1 := kpO hb HX.out.q1
        have e2 := kpO hb HAx.out
        clear c0 c1 c2 x0 x1 x2 x3 x4 hb
        have c0 := cell_at e1 0
        have c1 := cell_at e1 1
        have c2 := cell_at e1 2
        have x0 := cell_at e2 0
        have x1 := cell_at e2 1
        have x2 := cell_at e2 2
        have x3 := cell_at e2 3
        have x4 := cell_at e2 4
        clear e1 e2
        go_wp2_with fail
        refine (HPu.out _ HBx.out).mono ?_
        rintro e Z2 ⟨rfl, hz⟩
        have HZ2 := hidK hz
        clear hz
        go_wp2_with fail
        go_ret
        obtain ⟨n', h1, h2⟩ := HZ2.out
        rw [HRes.out]
        exact ⟨rfl, n', h1, h2.back (bst HX.out.below HBx.out)⟩
  · obtain ⟨pc, hpc⟩ : ∃ x, placeF sc id nm = x := ⟨_, rfl⟩
    rw [hpc] at hpl ⊢
    have hpc2 : (pc == 0) = false := by simpa using hpl
    have HRes := hidK (turnF_no hpc hpl L)
    clear hF hpc
    go_wp2_with fail
    go_ret
    rw [HRes.out]
    exact PutP.same HTb.out rfl (HZ.out.below.alloc HZ.out.below.size _)
end Go.Proofs.YtgdkpmfdpfjdjaaGreatDoor
