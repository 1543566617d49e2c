/-
  Options: put; value.
  Options: value; Set, Add, Turn, Unset.
-/
import Derived.Test.YtgdkpmfdpfjdjaaGreatDoorOChk
namespace Go.Proofs.YtgdkpmfdpfjdjaaGreatDoor
open Go.RowKit Go.Maps
set_option linter.unusedVariables false
set_option maxRecDepth 100000

theorem cho_short {r : Orow} (hr : r ∈ rowsO) : ∀ ws, r.kd = .cho ws → ws.length ≤ 100 := by
  have h : ∀ r ∈ rowsO, (match r.kd with | .cho ws => decide (ws.length ≤ 100) | _ => true) = true := by decide
  intro ws e
  have := h r hr
  rw [e] at this
  simpa using this
/-- What put, Set, Add, Turn, Unset tell and leave. -/
structure PutP (w : World) (d b n : Nat) (R : List Ent × Int) (e : Ending) (w' : World) : Prop where
  told : e = .returned (.int .i64 R.2)
  tn : ∃ n', n' ≤ n + 1 ∧ Tn w w' d b n' R.1
/-- The slot's block, behind what was made since. -/
structure Bl (w X : World) (Q1 : Nat) (sc id : Int) (nm : ByteArray) : Prop where
  below : Below w.heap.size w X
  q1 : X.heap[Q1]? = some (.cells #[.int .i64 sc, .int .i64 id, .string nm] 69 (0, 0))
  ge : w.heap.size ≤ Q1
theorem Bl.more {w X Y : World} {Q1 : Nat} {sc id : Int} {nm : ByteArray} (h : Bl w X Q1 sc id nm) (hb : Below X.heap.size X Y) : Bl w Y Q1 sc id nm := ⟨bst h.below hb, kpO hb h.q1, h.ge⟩
theorem Bl.put {w X : World} {Q1 : Nat} {sc id : Int} {nm : ByteArray} (h : Bl w X Q1 sc id nm) : Bl w (X.setCell ⟨Q1, 2, none⟩ (.string nm)) Q1 sc id nm :=
  ⟨h.below.setCell h.ge _, put_at h.q1 2 (.string nm), h.ge⟩
theorem hold4 {w Y w5 : World} {d b n Q1 : Nat} {L : List Ent} {sc id : Int} {nm : ByteArray} (h : Tb w d b n L) (hy : Bl w Y Q1 sc id nm) (hg : Y.grownBy w5 (some b)) :
    w5.cell? ⟨d, 0, none⟩ = some (.map (some b)) ∧ w5.cell? ⟨Q1, 0, none⟩ = some (.int .i64 sc) ∧ w5.cell? ⟨Q1, 1, none⟩ = some (.int .i64 id) ∧ w5.cell? ⟨Q1, 2, none⟩ = some (.string nm) := by
  have hlt := h.lt
  have hsz := hy.below.size
  have e1 : w5.heap[d]? = some (.cells #[.map (some b)] 59 (0, 0)) := by
    rw [hg.block d (by omega) (fun e => h.ne (Option.some.inj e)), hy.below.block d hlt.1]
    exact h.blk
  have e2 : w5.heap[Q1]? = some (.cells #[.int .i64 sc, .int .i64 id, .string nm] 69 (0, 0)) := by
    rw [hg.block Q1 (lt_block hy.q1) (fun e => by have := Option.some.inj e; have := hy.ge; omega)]
    exact hy.q1
  exact ⟨cell_at e1 0, cell_at e2 0, cell_at e2 1, cell_at e2 2⟩
set_option maxHeartbeats 16000000 in
theorem put_any {w : World} {d b n : Nat} {L : List Ent} (h : Tb w d b n L) (hE : Env w) (hn : n < maxLen) {sc id : Int} {nm : ByteArray} (hw : keyWf sc id nm) (vl : ByteArray) (hv : vl.size ≤ 140737488355328) (hfew : L.length ≤ 500) {r : Orow} (hr : r ∈ rowsO) {g bk : Nat} {cap : Array Value} {rs : Int} {xb yb : Bool} {fs : ByteArray}
    (hk : KindAt w bk r.kd (.agg #[.func (.func g) #[] cap, .bool xb, .bool yb])) :
    Calls Tryz.prog 50 #[.pointer (some ⟨d, 0, none⟩), .agg #[.int .i64 sc, .int .i64 id, .string nm], .agg #[.int .i64 rs, .func (.func g) #[] cap, .bool xb, .bool yb, .string fs], .string vl] w fun e w' => PutP w d b n (putF L sc id nm vl r.kd) e w' := by
  obtain ⟨hask, hck⟩ := check_any hk (cho_short hr) vl hv
  obtain ⟨ck, hc⟩ : ∃ c, checkF r.kd vl = c := ⟨_, rfl⟩
  rw [hc] at hck
  obtain ⟨W1, hW1, a1, b1, s1⟩ := two_blk (w := w) #[.int .i64 sc, .int .i64 id, .string nm] 69
  obtain ⟨W2, hW2, a2, b2, s2⟩ := two_blk (w := W1) #[.int .i64 rs, .func (.func g) #[] cap, .bool xb, .bool yb, .string fs] 51
  obtain ⟨Q1, hQ1⟩ : ∃ Q, w.heap.size = Q := ⟨_, rfl⟩
  obtain ⟨Q2, hQ2⟩ : ∃ Q, W1.heap.size = Q := ⟨_, rfl⟩
  rw [hQ1] at a1
  rw [hQ2] at a2
  have hbl : Bl w W2 Q1 sc id nm := ⟨bst b1 b2, kpO b2 a1, Nat.le_of_eq hQ1⟩
  have HBl := hidK hbl
  have HTb := hidK h
  have hlk := h.look hw
  obtain ⟨has, hhas⟩ : ∃ x, (atF L sc id nm).isSome = x := ⟨_, rfl⟩
  obtain ⟨hs, hhs⟩ : ∃ x, (atF L sc id nm).getD ⟨#[]⟩ = x := ⟨_, rfl⟩
  rw [hhas, hhs] at hlk
  have HSx : Hid (∀ Y, Bl w Y Q1 sc id nm → Y.cell? ⟨d, 0, none⟩ = some (.map (some b)) ∧ Y.cell? ⟨Q1, 0, none⟩ = some (.int .i64 sc) ∧ Y.cell? ⟨Q1, 1, none⟩ = some (.int .i64 id) ∧ Y.cell? ⟨Q1, 2, none⟩ = some (.string nm) ∧ (Instr.lookup 57 (.map (some b)) (.agg #[.int .i64 sc, .int .i64 id, .string nm]) true).run Tryz.prog Y = .ok (.tuple #[.agg #[.string hs], .bool has]) Y) := fun Y hY => by
    have e1 := kpO hY.below h.blk
    exact ⟨cell_at e1 0, cell_at hY.q1 0, cell_at hY.q1 1, cell_at hY.q1 2, hlk Y (hY.below.block b h.lt.2)⟩
  obtain ⟨SZ, hSZ⟩ : ∃ n, L.length = n := ⟨_, rfl⟩
  have HLe : Hid (∀ Y ty, Below w.heap.size w Y → (Builtin.len_ #[57] ty #[.map (some b)]).run Tryz.prog Y = .ok (.int .i64 (SZ : Int)) Y) := fun Y ty hY => by
    rw [← hSZ]; exact h.len ty Y (hY.block b h.lt.2)
  have HC1 : Hid (∀ Y, Calls Tryz.prog 23 #[.string nm] Y fun r w' => r = .returned (.string nm) ∧ Below Y.heap.size Y w') := fun Y => clone_any nm Y hw.2.2
  have HC2 : Hid (∀ Y, Calls Tryz.prog 23 #[.string vl] Y fun r w' => r = .returned (.string vl) ∧ Below Y.heap.size Y w') := fun Y => clone_any vl Y hv
  have HCk : Hid (∀ X, Below w.heap.size w X → Calls Tryz.prog g (#[.string vl] ++ cap) X fun e w' => e = .returned (.int .i64 ck) ∧ Below X.heap.size X w') := fun X hX => hck X hX (hE.below hX)
  have HP1 : Hid (ck ≠ 0 → putF L sc id nm vl r.kd = (L, ck)) := fun q => by unfold putF; rw [hc, if_pos q]
  have HP2 : Hid (ck = 0 → 500 ≤ (L.filter (offB sc id nm)).length → putF L sc id nm vl r.kd = (L, 3)) := fun q z => by unfold putF; rw [hc, if_neg (fun y => y q), if_pos z]
  have HP3 : Hid (ck = 0 → ¬ 500 ≤ (L.filter (offB sc id nm)).length → putF L sc id nm vl r.kd = (L.filter (offB sc id nm) ++ [⟨sc, id, nm, vl⟩], 0)) := fun q z => by unfold putF; rw [hc, if_neg (fun y => y q), if_neg z]
  have HOf : Hid ((has = true → ¬ 500 ≤ (L.filter (offB sc id nm)).length) ∧ (has = false → (L.filter (offB sc id nm)).length = SZ)) := by
    refine ⟨fun q => ?_, fun q => ?_⟩
    · rw [q] at hhas
      obtain ⟨v, hv⟩ := Option.isSome_iff_exists.1 hhas
      obtain ⟨D, hD⟩ := h
      have := off_len hD.dc.apart hv
      omega
    · rw [q] at hhas
      rw [off_none (by simpa using hhas)]
      exact hSZ
  have HNm := hidK hn
  have HK := hidK hw
  obtain ⟨PV, hPV⟩ : ∃ x, putF L sc id nm vl r.kd = x := ⟨_, rfl⟩
  rw [hPV] at HP1 HP2 HP3 ⊢
  unfold Asks at hask
  have c1 : W2.cell? ⟨Q2, 1, none⟩ = some (.func (.func g) #[] cap) := cell_at a2 1
  clear hlk hhas hhs hSZ hPV hbl b1 b2 a1 a2 s1 s2 hv hw hn hE h hck hc hk hr hfew
  go_enter Tryz.func50, Tryz.ntmps50
  by_cases hck : ck = 0
  · subst hck
    go_wp2_with (go_at_fn g; refine (HCk.out _ HBl.out.below).mono ?_; rintro e Y ⟨rfl, hb⟩; have HBy := hidK (HBl.out.more hb); clear hb HBl HCk c1)
    refine wp_region_held_drew (S := (fun X => X.cell? ⟨d, 0, none⟩ = some (.map (some b)) ∧ X.cell? ⟨Q1, 0, none⟩ = some (.int .i64 sc) ∧ X.cell? ⟨Q1, 1, none⟩ = some (.int .i64 id) ∧ X.cell? ⟨Q1, 2, none⟩ = some (.string nm) ∧ (Instr.lookup 57 (.map (some b)) (.agg #[.int .i64 sc, .int .i64 id, .string nm]) true).run Tryz.prog X = .ok (.tuple #[.agg #[.string hs], .bool has]) X)) (by kernel_rfl) ?sP (fun hHeld => ?_)
    case sP => ((try dsimp only); exact HSx.out _ (by first | exact HBx.out | exact HBy.out | exact HBy.out.more (Below.refl _ _).drew | exact HBx.out.more (Below.refl _ _).drew | exact HBx.out.more ((Below.refl _ _).alloc (Nat.le_refl _) _) | exact HBx.out.more (((Below.refl _ _).alloc (Nat.le_refl _) _).setCell (Nat.le_refl _) _)))
    have HBx := hidK (HBy.out.more (Below.refl _ _).drew)
    clear HBy
    refine wpAnyH_take (i := 0) (oi := { dst := some 21, op := Op.move (Operand.tmp 0), type := 25, pos := "options.go:110", after := #[], guard := none }) (v := ?vP0n1) rfl (by kernel_rfl) (by kernel_rfl) (by kernel_rfl) (fun _ _ _ h => h) (Or.inl ⟨by rfl, ?yP0n1⟩) (by assumption) ?rP0n1
    case yP0n1 => (intro w hSw; (try dsimp only at hSw); first | (go_simp; done) | (go_simp; with_reducible rfl))
    try simp only [Act.put, List.setIfInBounds_toArray, List.set_cons_zero, List.set_cons_succ]
    refine wpAnyH_take (i := 1) (oi := { dst := some 22, op := Op.nilCheck (Operand.tmp 21), type := 0, pos := "options.go:110", after := #[{ on := 0, ground := Ground.data }], guard := none }) (v := ?vP1n2) rfl (by kernel_rfl) (by kernel_rfl) (by kernel_rfl) (fun _ _ _ h => h) (Or.inl ⟨by rfl, ?yP1n2⟩) (by assumption) ?rP1n2
    case yP1n2 => (intro w hSw; (try dsimp only at hSw); first | (go_simp; done) | (go_simp; with_reducible rfl))
    try simp only [Act.put, List.setIfInBounds_toArray, List.set_cons_zero, List.set_cons_succ]
    refine wpAnyH_take (i := 2) (oi := { dst := some 23, op := Op.fieldAddr 59 (Operand.tmp 22) 0, type := 0, pos := "options.go:110", after := #[{ on := 1, ground := Ground.data }], guard := none }) (v := ?vP2n3) rfl (by kernel_rfl) (by kernel_rfl) (by kernel_rfl) (fun _ _ _ h => h) (Or.inl ⟨by rfl, ?yP2n3⟩) (by assumption) ?rP2n3
    case yP2n3 => (intro w hSw; (try dsimp only at hSw); first | (go_simp; done) | (go_simp; with_reducible rfl))
    try simp only [Act.put, List.setIfInBounds_toArray, List.set_cons_zero, List.set_cons_succ]
    refine wpAnyH_take (i := 3) (oi := { dst := some 24, op := Op.load 57 (Operand.tmp 23), type := 57, pos := "options.go:110", after := #[{ on := 2, ground := Ground.data }], guard := none }) (v := ?vP3n4) rfl (by kernel_rfl) (by kernel_rfl) (by kernel_rfl) (fun _ _ _ h => h) (Or.inl ⟨by rfl, ?yP3n4⟩) (by assumption) ?rP3n4
    case yP3n4 => (intro w hSw; (try dsimp only at hSw); first | (go_simp; done) | (go_simp; with_reducible rfl))
    try simp only [Act.put, List.setIfInBounds_toArray, List.set_cons_zero, List.set_cons_succ]
    refine wpAnyH_take (i := 4) (oi := { dst := some 25, op := Op.load 69 (Operand.tmp 5), type := 69, pos := "options.go:110", after := #[], guard := none }) (v := ?vP4n5) rfl (by kernel_rfl) (by kernel_rfl) (by kernel_rfl) (fun _ _ _ h => h) (Or.inl ⟨by rfl, ?yP4n5⟩) (by assumption) ?rP4n5
    case yP4n5 => (intro w hSw; (try dsimp only at hSw); first | (go_simp; done) | (go_simp; with_reducible rfl))
    try simp only [Act.put, List.setIfInBounds_toArray, List.set_cons_zero, List.set_cons_succ]
    refine wpAnyH_take (i := 5) (oi := { dst := some 26, op := Op.lookup 57 (Operand.tmp 24) (Operand.tmp 25) true, type := 67, pos := "options.go:110", after := #[{ on := 3, ground := Ground.data }, { on := 4, ground := Ground.data }], guard := none }) (v := ?vP5n6) rfl (by kernel_rfl) (by kernel_rfl) (by kernel_rfl) (fun _ _ _ h => h) (Or.inl ⟨by rfl, ?yP5n6⟩) (by assumption) ?rP5n6
    case yP5n6 => (intro w hSw; (try dsimp only at hSw); first | (go_simp; done) | (go_simp; with_reducible rfl))
    try simp only [Act.put, List.setIfInBounds_toArray, List.set_cons_zero, List.set_cons_succ]
    refine wpAnyH_take (i := 6) (oi := { dst := some 20, op := Op.move (Operand.tmp 26), type := 67, pos := "options.go:110", after := #[{ on := 5, ground := Ground.data }], guard := none }) (v := ?vP6n7) rfl (by kernel_rfl) (by kernel_rfl) (by kernel_rfl) (fun _ _ _ h => h) (Or.inl ⟨by rfl, ?yP6n7⟩) (by assumption) ?rP6n7
    case yP6n7 => (intro w hSw; (try dsimp only at hSw); first | (go_simp; done) | (go_simp; with_reducible rfl))
    try simp only [Act.put, List.setIfInBounds_toArray, List.set_cons_zero, List.set_cons_succ]
    refine wpAnyH_take (i := 7) (oi := { dst := some 27, op := Op.extract (Operand.tmp 20) 0, type := 66, pos := "options.go:110", after := #[{ on := 6, ground := Ground.data }], guard := none }) (v := ?vP7n8) rfl (by kernel_rfl) (by kernel_rfl) (by kernel_rfl) (fun _ _ _ h => h) (Or.inl ⟨by rfl, ?yP7n8⟩) (by assumption) ?rP7n8
    case yP7n8 => (intro w hSw; (try dsimp only at hSw); first | (go_simp; done) | (go_simp; with_reducible rfl))
    try simp only [Act.put, List.setIfInBounds_toArray, List.set_cons_zero, List.set_cons_succ]
    refine wpAnyH_take (i := 8) (oi := { dst := some 28, op := Op.extract (Operand.tmp 20) 1, type := 4, pos := "options.go:110", after := #[{ on := 6, ground := Ground.data }, { on := 10, ground := Ground.gcOnly Departure.lateStores }], guard := none }) (v := ?vP8n9) rfl (by kernel_rfl) (by kernel_rfl) (by kernel_rfl) (fun _ _ _ h => h) (Or.inl ⟨by rfl, ?yP8n9⟩) (by assumption) ?rP8n9
    case yP8n9 => (intro w hSw; (try dsimp only at hSw); first | (go_simp; done) | (go_simp; with_reducible rfl))
    try simp only [Act.put, List.setIfInBounds_toArray, List.set_cons_zero, List.set_cons_succ]
    refine wpAnyH_ready (rs := [9]) (by kernel_rfl) (by simp) (AllReadyH.cons (o := { dst := some 10, op := Op.alloc 66, type := 0, pos := "options.go:110", after := #[], guard := none }) rfl (fun K hK => ?bPn10q0) AllReadyH.nil)
    go_simp
    refine hK.out _ _ ?kPn10o9 (fun hHeld10 => ?_)
    case kPn10o9 => ((try dsimp only); exact HSx.out _ (by first | exact HBx.out | exact HBy.out | exact HBy.out.more (Below.refl _ _).drew | exact HBx.out.more (Below.refl _ _).drew | exact HBx.out.more ((Below.refl _ _).alloc (Nat.le_refl _) _) | exact HBx.out.more (((Below.refl _ _).alloc (Nat.le_refl _) _).setCell (Nat.le_refl _) _)))
    clear hK K
    skip
    try simp only [Act.put, List.setIfInBounds_toArray, List.set_cons_zero, List.set_cons_succ]
    refine wpAnyH_ready (rs := [10]) (by kernel_rfl) (by simp) (AllReadyH.cons (o := { dst := none, op := Op.store 66 (Operand.tmp 10) (Operand.tmp 27), type := 0, pos := "options.go:110", after := #[{ on := 9, ground := Ground.data }, { on := 7, ground := Ground.data }, { on := 0, ground := Ground.phase }, { on := 1, ground := Ground.phase }, { on := 2, ground := Ground.phase }, { on := 3, ground := Ground.phase }, { on := 4, ground := Ground.phase }, { on := 5, ground := Ground.phase }, { on := 6, ground := Ground.phase }, { on := 7, ground := Ground.phase }, { on := 8, ground := Ground.textOnly Departure.lateStores }, { on := 9, ground := Ground.phase }], guard := none }) rfl (fun K hK => ?bPn11q0) AllReadyH.nil)
    go_simp
    refine hK.out _ _ ?kPn11o10 (fun hHeld11 => ?_)
    case kPn11o10 => ((try dsimp only); exact HSx.out _ (by first | exact HBx.out | exact HBy.out | exact HBy.out.more (Below.refl _ _).drew | exact HBx.out.more (Below.refl _ _).drew | exact HBx.out.more ((Below.refl _ _).alloc (Nat.le_refl _) _) | exact HBx.out.more (((Below.refl _ _).alloc (Nat.le_refl _) _).setCell (Nat.le_refl _) _)))
    clear hK K
    skip
    try simp only [Act.put, List.setIfInBounds_toArray, List.set_cons_zero, List.set_cons_succ]
    refine wpAnyH_take (i := 11) (oi := { dst := some 11, op := Op.assign (Operand.tmp 28), type := 4, pos := "options.go:110", after := #[{ on := 8, ground := Ground.data }, { on := 10, ground := Ground.chain }, { on := 0, ground := Ground.phase }, { on := 1, ground := Ground.phase }, { on := 2, ground := Ground.phase }, { on := 3, ground := Ground.phase }, { on := 4, ground := Ground.phase }, { on := 5, ground := Ground.phase }, { on := 6, ground := Ground.phase }, { on := 7, ground := Ground.phase }, { on := 8, ground := Ground.phase }, { on := 9, ground := Ground.phase }, { on := 10, ground := Ground.phase }], guard := none }) (v := ?vP11n12) rfl (by kernel_rfl) (by kernel_rfl) (by kernel_rfl) (fun _ _ _ h => h) (Or.inl ⟨by rfl, ?yP11n12⟩) (by assumption) ?rP11n12
    case yP11n12 => (intro w hSw; (try dsimp only at hSw); first | (go_simp; done) | (go_simp; with_reducible rfl))
    try simp only [Act.put, List.setIfInBounds_toArray, List.set_cons_zero, List.set_cons_succ]
    refine wpAnyH_done (by kernel_rfl) ?_ _
    refine gen_exitO (fun Y => Bl w Y Q1 sc id nm) ?g1 ?_
    case g1 => first | exact HBx.out.more ((Below.refl _ _).alloc (Nat.le_refl _) _) | exact HBx.out.more (((Below.refl _ _).alloc (Nat.le_refl _) _).setCell (Nat.le_refl _) _)
    intro Z hz
    have HZ := hidK hz
    clear hz HBx HSx
    have d0 : Z.cell? ⟨d, 0, none⟩ = some (.map (some b)) := cell_at (HTb.out.more HZ.out.below).blk 0
    have hle : ∀ ty, (Builtin.len_ #[57] ty #[.map (some b)]).run Tryz.prog Z = .ok (.int .i64 (SZ : Int)) Z := fun ty => HLe.out Z ty HZ.out.below
    by_cases hfull : has = false ∧ 500 ≤ SZ
    · obtain ⟨rfl, hs2⟩ := hfull
      have hi2 : (500 : Int) ≤ (SZ : Int) := by omega
      go_wp2_with fail
      go_ret
      rw [HP2.out (by simp) (by rw [HOf.out.2 (by simp)]; exact hs2)]
      exact ⟨rfl, n, Nat.le_succ n, Tn.of_below HTb.out HZ.out.below⟩
    · have hi2 : has = true ∨ (has = false ∧ ¬ (500 : Int) ≤ (SZ : Int)) := by
        cases has
        · exact .inr ⟨rfl, fun q => hfull ⟨rfl, by omega⟩⟩
        · exact .inl rfl
      have HP5 : Hid (PV = (L.filter (offB sc id nm) ++ [⟨sc, id, nm, vl⟩], 0)) := HP3.out (by simp) (by
        cases has with
        | true => exact HOf.out.1 rfl
        | false => rw [HOf.out.2 rfl]; exact fun q => hfull ⟨rfl, q⟩)
      clear hfull
      have HSy : Hid (∀ Y, Bl w Y Q1 sc id nm → Y.cell? ⟨d, 0, none⟩ = some (.map (some b)) ∧ Y.cell? ⟨Q1, 0, none⟩ = some (.int .i64 sc) ∧ Y.cell? ⟨Q1, 1, none⟩ = some (.int .i64 id) ∧ Y.cell? ⟨Q1, 2, none⟩ = some (.string nm)) := fun Y hY => ⟨cell_at (HTb.out.more hY.below).blk 0, cell_at hY.q1 0, cell_at hY.q1 1, cell_at hY.q1 2⟩
      have y4 := cell_at HZ.out.q1 2
      rcases hi2 with rfl | ⟨rfl, hi2⟩
      · go_wp2_with fail
        refine (HC1.out _).mono ?_
        rintro e Z2 ⟨rfl, hb⟩
        have hZ2 := HZ.out.more hb
        have z0 := cell_at hZ2.q1 2
        have z1 := free_at hZ2.q1 2
        have HZ3 := hidK hZ2.put
        clear hb hZ2
        obtain ⟨Z3, hZ3⟩ : ∃ Z3, Z2.setCell ⟨Q1, 2, none⟩ (.string nm) = Z3 := ⟨_, rfl⟩
        rw [hZ3] at HZ3
        go_wp2_with fail
        refine wp_region_held_drew (S := (fun X => X.cell? ⟨d, 0, none⟩ = some (.map (some b)) ∧ X.cell? ⟨Q1, 0, none⟩ = some (.int .i64 sc) ∧ X.cell? ⟨Q1, 1, none⟩ = some (.int .i64 id) ∧ X.cell? ⟨Q1, 2, none⟩ = some (.string nm))) (by kernel_rfl) ?sR (fun hHeld => ?_)
        case sR => ((try dsimp only); first | exact HSy.out _ (by first | exact HZ3.out | exact HZ3.out.more (Below.refl _ _).drew) | exact HSz.out)
        have HZ4 := hidK (HZ3.out.more (Below.refl _ _).drew)
        clear HZ3
        have HZ3 := hidK HZ4.out
        clear HZ4
        refine wpAnyH_take (i := 0) (oi := { dst := some 43, op := Op.move (Operand.tmp 0), type := 25, pos := "options.go:114", after := #[], guard := none }) (v := ?vR0n1) rfl (by kernel_rfl) (by kernel_rfl) (by kernel_rfl) (fun _ _ _ h => h) (Or.inl ⟨by rfl, ?yR0n1⟩) (by assumption) ?rR0n1
        case yR0n1 => (intro w hSw; (try dsimp only at hSw); first | (go_simp; done) | (go_simp; with_reducible rfl))
        try simp only [Act.put, List.setIfInBounds_toArray, List.set_cons_zero, List.set_cons_succ]
        refine wpAnyH_take (i := 1) (oi := { dst := some 44, op := Op.nilCheck (Operand.tmp 43), type := 0, pos := "options.go:114", after := #[{ on := 0, ground := Ground.data }], guard := none }) (v := ?vR1n2) rfl (by kernel_rfl) (by kernel_rfl) (by kernel_rfl) (fun _ _ _ h => h) (Or.inl ⟨by rfl, ?yR1n2⟩) (by assumption) ?rR1n2
        case yR1n2 => (intro w hSw; (try dsimp only at hSw); first | (go_simp; done) | (go_simp; with_reducible rfl))
        try simp only [Act.put, List.setIfInBounds_toArray, List.set_cons_zero, List.set_cons_succ]
        refine wpAnyH_take (i := 2) (oi := { dst := some 45, op := Op.fieldAddr 59 (Operand.tmp 44) 0, type := 0, pos := "options.go:114", after := #[{ on := 1, ground := Ground.data }], guard := none }) (v := ?vR2n3) rfl (by kernel_rfl) (by kernel_rfl) (by kernel_rfl) (fun _ _ _ h => h) (Or.inl ⟨by rfl, ?yR2n3⟩) (by assumption) ?rR2n3
        case yR2n3 => (intro w hSw; (try dsimp only at hSw); first | (go_simp; done) | (go_simp; with_reducible rfl))
        try simp only [Act.put, List.setIfInBounds_toArray, List.set_cons_zero, List.set_cons_succ]
        refine wpAnyH_take (i := 3) (oi := { dst := some 46, op := Op.load 57 (Operand.tmp 45), type := 57, pos := "options.go:114", after := #[{ on := 2, ground := Ground.data }], guard := none }) (v := ?vR3n4) rfl (by kernel_rfl) (by kernel_rfl) (by kernel_rfl) (fun _ _ _ h => h) (Or.inl ⟨by rfl, ?yR3n4⟩) (by assumption) ?rR3n4
        case yR3n4 => (intro w hSw; (try dsimp only at hSw); first | (go_simp; done) | (go_simp; with_reducible rfl))
        try simp only [Act.put, List.setIfInBounds_toArray, List.set_cons_zero, List.set_cons_succ]
        refine wpAnyH_take (i := 4) (oi := { dst := some 47, op := Op.load 69 (Operand.tmp 5), type := 69, pos := "options.go:114", after := #[], guard := none }) (v := ?vR4n5) rfl (by kernel_rfl) (by kernel_rfl) (by kernel_rfl) (fun _ _ _ h => h) (Or.inl ⟨by rfl, ?yR4n5⟩) (by assumption) ?rR4n5
        case yR4n5 => (intro w hSw; (try dsimp only at hSw); first | (go_simp; done) | (go_simp; with_reducible rfl))
        try simp only [Act.put, List.setIfInBounds_toArray, List.set_cons_zero, List.set_cons_succ]
        refine wpAnyH_take (i := 5) (oi := { dst := some 48, op := Op.move (Operand.tmp 3), type := 9, pos := "options.go:114", after := #[], guard := none }) (v := ?vR5n6) rfl (by kernel_rfl) (by kernel_rfl) (by kernel_rfl) (fun _ _ _ h => h) (Or.inl ⟨by rfl, ?yR5n6⟩) (by assumption) ?rR5n6
        case yR5n6 => (intro w hSw; (try dsimp only at hSw); first | (go_simp; done) | (go_simp; with_reducible rfl))
        try simp only [Act.put, List.setIfInBounds_toArray, List.set_cons_zero, List.set_cons_succ]
        refine wpAnyH_ready (rs := [6]) (by kernel_rfl) (by simp) (AllReadyH.cons (o := { dst := some 49, op := Op.call { callee := Callee.value (Operand.func 23), args := #[Operand.tmp 48], argTypes := #[9] }, type := 9, pos := "options.go:114", after := #[{ on := 5, ground := Ground.data }], guard := none }) rfl (fun K hK => ?bRn7q0) AllReadyH.nil)
        go_simp
        go_wp2_with (refine (HC2.out _).mono ?_; rintro e Y1 ⟨rfl, hb⟩; have HZ4 := hidK (HZ3.out.more hb); clear hb HZ3; have HZ3 := hidK HZ4.out; clear HZ4)
        refine hK.out _ _ ?kRn7o6 (fun hHeld7 => ?_)
        case kRn7o6 => ((try dsimp only); first | exact HSy.out _ (by first | exact HZ3.out | exact HZ3.out.more (Below.refl _ _).drew) | exact HSz.out)
        clear hK K
        try simp only [Act.put, List.setIfInBounds_toArray, List.set_cons_zero, List.set_cons_succ]
        refine wpAnyH_take (i := 7) (oi := { dst := some 50, op := Op.build 66 #[(0, Operand.tmp 49)], type := 66, pos := "options.go:114", after := #[{ on := 6, ground := Ground.data }], guard := none }) (v := ?vR7n8) rfl (by kernel_rfl) (by kernel_rfl) (by kernel_rfl) (fun _ _ _ h => h) (Or.inl ⟨by rfl, ?yR7n8⟩) (by assumption) ?rR7n8
        case yR7n8 => (intro w hSw; (try dsimp only at hSw); first | (go_simp; done) | (go_simp; with_reducible rfl))
        try simp only [Act.put, List.setIfInBounds_toArray, List.set_cons_zero, List.set_cons_succ]
        refine wpAnyH_ready (rs := [8]) (by kernel_rfl) (by simp) (AllReadyH.cons (o := { dst := none, op := Op.mapUpdate 57 (Operand.tmp 46) (Operand.tmp 47) (Operand.tmp 50), type := 0, pos := "options.go:114", after := #[{ on := 3, ground := Ground.data }, { on := 4, ground := Ground.data }, { on := 7, ground := Ground.data }, { on := 6, ground := Ground.chain }, { on := 0, ground := Ground.phase }, { on := 1, ground := Ground.phase }, { on := 2, ground := Ground.phase }, { on := 3, ground := Ground.phase }, { on := 4, ground := Ground.phase }, { on := 5, ground := Ground.phase }, { on := 6, ground := Ground.phase }, { on := 7, ground := Ground.phase }], guard := none }) rfl (fun K hK => ?bRn9q0) AllReadyH.nil)
        obtain ⟨D, hD⟩ := HTb.out
        refine step_update _ rfl (.tmp 46) (.tmp 47) (.tmp 50) rfl ?hmR ?hxR ?hvR (hD.more HZ3.out.below).own HNm.out HK.out.key (heldR_mk vl) ?_
        case hmR => simp [Act.eval]
        case hxR => simp [Act.eval]; rfl
        case hvR => simp [Act.eval]
        intro w5 ho5
        have HSz : Hid (w5.cell? ⟨d, 0, none⟩ = some (.map (some b)) ∧ w5.cell? ⟨Q1, 0, none⟩ = some (.int .i64 sc) ∧ w5.cell? ⟨Q1, 1, none⟩ = some (.int .i64 id) ∧ w5.cell? ⟨Q1, 2, none⟩ = some (.string nm)) := hold4 HTb.out HZ3.out ho5.out.2
        have HTn : Hid (Tn w w5 d b (n + 1) (L.filter (offB sc id nm) ++ [⟨sc, id, nm, vl⟩])) := hD.turned HZ3.out.below ho5.out.1 (hD.dc.put (e := ⟨sc, id, nm, vl⟩) HK.out) ho5.out.2
        clear hD
        refine hK.out _ _ ?kRn9o8 (fun hHeld9 => ?_)
        case kRn9o8 => ((try dsimp only); first | exact HSy.out _ (by first | exact HZ3.out | exact HZ3.out.more (Below.refl _ _).drew) | exact HSz.out)
        clear hK K
        try simp only [Act.put]
        refine wpAnyH_done (by kernel_rfl) ?_ _
        go_wp2_with fail
        go_ret
        rw [HP5.out]
        exact ⟨rfl, n + 1, Nat.le_refl _, HTn.out⟩
      · go_wp2_with fail
        refine (HC1.out _).mono ?_
        rintro e Z2 ⟨rfl, hb⟩
        have hZ2 := HZ.out.more hb
        have z0 := cell_at hZ2.q1 2
        have z1 := free_at hZ2.q1 2
        have HZ3 := hidK hZ2.put
        clear hb hZ2
        obtain ⟨Z3, hZ3⟩ : ∃ Z3, Z2.setCell ⟨Q1, 2, none⟩ (.string nm) = Z3 := ⟨_, rfl⟩
        rw [hZ3] at HZ3
        go_wp2_with fail
        refine wp_region_held_drew (S := (fun X => X.cell? ⟨d, 0, none⟩ = some (.map (some b)) ∧ X.cell? ⟨Q1, 0, none⟩ = some (.int .i64 sc) ∧ X.cell? ⟨Q1, 1, none⟩ = some (.int .i64 id) ∧ X.cell? ⟨Q1, 2, none⟩ = some (.string nm))) (by kernel_rfl) ?sU (fun hHeld => ?_)
        case sU => ((try dsimp only); first | exact HSy.out _ (by first | exact HZ3.out | exact HZ3.out.more (Below.refl _ _).drew) | exact HSz.out)
        have HZ4 := hidK (HZ3.out.more (Below.refl _ _).drew)
        clear HZ3
        have HZ3 := hidK HZ4.out
        clear HZ4
        refine wpAnyH_take (i := 0) (oi := { dst := some 43, op := Op.move (Operand.tmp 0), type := 25, pos := "options.go:114", after := #[], guard := none }) (v := ?vU0n1) rfl (by kernel_rfl) (by kernel_rfl) (by kernel_rfl) (fun _ _ _ h => h) (Or.inl ⟨by rfl, ?yU0n1⟩) (by assumption) ?rU0n1
        case yU0n1 => (intro w hSw; (try dsimp only at hSw); first | (go_simp; done) | (go_simp; with_reducible rfl))
        try simp only [Act.put, List.setIfInBounds_toArray, List.set_cons_zero, List.set_cons_succ]
        refine wpAnyH_take (i := 1) (oi := { dst := some 44, op := Op.nilCheck (Operand.tmp 43), type := 0, pos := "options.go:114", after := #[{ on := 0, ground := Ground.data }], guard := none }) (v := ?vU1n2) rfl (by kernel_rfl) (by kernel_rfl) (by kernel_rfl) (fun _ _ _ h => h) (Or.inl ⟨by rfl, ?yU1n2⟩) (by assumption) ?rU1n2
        case yU1n2 => (intro w hSw; (try dsimp only at hSw); first | (go_simp; done) | (go_simp; with_reducible rfl))
        try simp only [Act.put, List.setIfInBounds_toArray, List.set_cons_zero, List.set_cons_succ]
        refine wpAnyH_take (i := 2) (oi := { dst := some 45, op := Op.fieldAddr 59 (Operand.tmp 44) 0, type := 0, pos := "options.go:114", after := #[{ on := 1, ground := Ground.data }], guard := none }) (v := ?vU2n3) rfl (by kernel_rfl) (by kernel_rfl) (by kernel_rfl) (fun _ _ _ h => h) (Or.inl ⟨by rfl, ?yU2n3⟩) (by assumption) ?rU2n3
        case yU2n3 => (intro w hSw; (try dsimp only at hSw); first | (go_simp; done) | (go_simp; with_reducible rfl))
        try simp only [Act.put, List.setIfInBounds_toArray, List.set_cons_zero, List.set_cons_succ]
        refine wpAnyH_take (i := 3) (oi := { dst := some 46, op := Op.load 57 (Operand.tmp 45), type := 57, pos := "options.go:114", after := #[{ on := 2, ground := Ground.data }], guard := none }) (v := ?vU3n4) rfl (by kernel_rfl) (by kernel_rfl) (by kernel_rfl) (fun _ _ _ h => h) (Or.inl ⟨by rfl, ?yU3n4⟩) (by assumption) ?rU3n4
        case yU3n4 => (intro w hSw; (try dsimp only at hSw); first | (go_simp; done) | (go_simp; with_reducible rfl))
        try simp only [Act.put, List.setIfInBounds_toArray, List.set_cons_zero, List.set_cons_succ]
        refine wpAnyH_take (i := 4) (oi := { dst := some 47, op := Op.load 69 (Operand.tmp 5), type := 69, pos := "options.go:114", after := #[], guard := none }) (v := ?vU4n5) rfl (by kernel_rfl) (by kernel_rfl) (by kernel_rfl) (fun _ _ _ h => h) (Or.inl ⟨by rfl, ?yU4n5⟩) (by assumption) ?rU4n5
        case yU4n5 => (intro w hSw; (try dsimp only at hSw); first | (go_simp; done) | (go_simp; with_reducible rfl))
        try simp only [Act.put, List.setIfInBounds_toArray, List.set_cons_zero, List.set_cons_succ]
        refine wpAnyH_take (i := 5) (oi := { dst := some 48, op := Op.move (Operand.tmp 3), type := 9, pos := "options.go:114", after := #[], guard := none }) (v := ?vU5n6) rfl (by kernel_rfl) (by kernel_rfl) (by kernel_rfl) (fun _ _ _ h => h) (Or.inl ⟨by rfl, ?yU5n6⟩) (by assumption) ?rU5n6
        case yU5n6 => (intro w hSw; (try dsimp only at hSw); first | (go_simp; done) | (go_simp; with_reducible rfl))
        try simp only [Act.put, List.setIfInBounds_toArray, List.set_cons_zero, List.set_cons_succ]
        refine wpAnyH_ready (rs := [6]) (by kernel_rfl) (by simp) (AllReadyH.cons (o := { dst := some 49, op := Op.call { callee := Callee.value (Operand.func 23), args := #[Operand.tmp 48], argTypes := #[9] }, type := 9, pos := "options.go:114", after := #[{ on := 5, ground := Ground.data }], guard := none }) rfl (fun K hK => ?bUn7q0) AllReadyH.nil)
        go_simp
        go_wp2_with (refine (HC2.out _).mono ?_; rintro e Y1 ⟨rfl, hb⟩; have HZ4 := hidK (HZ3.out.more hb); clear hb HZ3; have HZ3 := hidK HZ4.out; clear HZ4)
        refine hK.out _ _ ?kUn7o6 (fun hHeld7 => ?_)
        case kUn7o6 => ((try dsimp only); first | exact HSy.out _ (by first | exact HZ3.out | exact HZ3.out.more (Below.refl _ _).drew) | exact HSz.out)
        clear hK K
        try simp only [Act.put, List.setIfInBounds_toArray, List.set_cons_zero, List.set_cons_succ]
        refine wpAnyH_take (i := 7) (oi := { dst := some 50, op := Op.build 66 #[(0, Operand.tmp 49)], type := 66, pos := "options.go:114", after := #[{ on := 6, ground := Ground.data }], guard := none }) (v := ?vU7n8) rfl (by kernel_rfl) (by kernel_rfl) (by kernel_rfl) (fun _ _ _ h => h) (Or.inl ⟨by rfl, ?yU7n8⟩) (by assumption) ?rU7n8
        case yU7n8 => (intro w hSw; (try dsimp only at hSw); first | (go_simp; done) | (go_simp; with_reducible rfl))
        try simp only [Act.put, List.setIfInBounds_toArray, List.set_cons_zero, List.set_cons_succ]
        refine wpAnyH_ready (rs := [8]) (by kernel_rfl) (by simp) (AllReadyH.cons (o := { dst := none, op := Op.mapUpdate 57 (Operand.tmp 46) (Operand.tmp 47) (Operand.tmp 50), type := 0, pos := "options.go:114", after := #[{ on := 3, ground := Ground.data }, { on := 4, ground := Ground.data }, { on := 7, ground := Ground.data }, { on := 6, ground := Ground.chain }, { on := 0, ground := Ground.phase }, { on := 1, ground := Ground.phase }, { on := 2, ground := Ground.phase }, { on := 3, ground := Ground.phase }, { on := 4, ground := Ground.phase }, { on := 5, ground := Ground.phase }, { on := 6, ground := Ground.phase }, { on := 7, ground := Ground.phase }], guard := none }) rfl (fun K hK => ?bUn9q0) AllReadyH.nil)
        obtain ⟨D, hD⟩ := HTb.out
        refine step_update _ rfl (.tmp 46) (.tmp 47) (.tmp 50) rfl ?hmU ?hxU ?hvU (hD.more HZ3.out.below).own HNm.out HK.out.key (heldR_mk vl) ?_
        case hmU => simp [Act.eval]
        case hxU => simp [Act.eval]; rfl
        case hvU => simp [Act.eval]
        intro w5 ho5
        have HSz : Hid (w5.cell? ⟨d, 0, none⟩ = some (.map (some b)) ∧ w5.cell? ⟨Q1, 0, none⟩ = some (.int .i64 sc) ∧ w5.cell? ⟨Q1, 1, none⟩ = some (.int .i64 id) ∧ w5.cell? ⟨Q1, 2, none⟩ = some (.string nm)) := hold4 HTb.out HZ3.out ho5.out.2
        have HTn : Hid (Tn w w5 d b (n + 1) (L.filter (offB sc id nm) ++ [⟨sc, id, nm, vl⟩])) := hD.turned HZ3.out.below ho5.out.1 (hD.dc.put (e := ⟨sc, id, nm, vl⟩) HK.out) ho5.out.2
        clear hD
        refine hK.out _ _ ?kUn9o8 (fun hHeld9 => ?_)
        case kUn9o8 => ((try dsimp only); first | exact HSy.out _ (by first | exact HZ3.out | exact HZ3.out.more (Below.refl _ _).drew) | exact HSz.out)
        clear hK K
        try simp only [Act.put]
        refine wpAnyH_done (by kernel_rfl) ?_ _
        go_wp2_with fail
        go_ret
        rw [HP5.out]
        exact ⟨rfl, n + 1, Nat.le_refl _, HTn.out⟩
  · have hck2 : (ck == 0) = false := by simpa using hck
    go_wp2_with (go_at_fn g; refine (HCk.out _ HBl.out.below).mono ?_; rintro e Y ⟨rfl, hb⟩; have HBy := hidK (HBl.out.more hb); clear hb HBl HCk c1)
    go_ret
    rw [HP1.out hck]
    exact ⟨rfl, n, Nat.le_succ n, Tn.of_below HTb.out HBy.out.below⟩
end Go.Proofs.YtgdkpmfdpfjdjaaGreatDoor

namespace Go.Proofs.YtgdkpmfdpfjdjaaGreatDoor
open Go.RowKit Go.Maps
set_option linter.unusedVariables false
set_option maxRecDepth 100000

theorem Tn.back {w X w' : World} {d b n : Nat} {L : List Ent} (hb : Below w.heap.size w X) (h : Tn X w' d b n L) : Tn w w' d b n L :=
  ⟨h.tb, ⟨h.but.os.trans hb.os, h.but.tape.trans hb.tape, h.but.output.trans hb.output, Nat.le_trans hb.size h.but.size, fun k hk hn => (h.but.block k (Nat.lt_of_lt_of_le hk hb.size) hn).trans (hb.block k hk)⟩⟩
theorem PutP.back {w X w' : World} {d b n : Nat} {R : List Ent × Int} {e : Ending} (hb : Below w.heap.size w X) (h : PutP X d b n R e w') : PutP w d b n R e w' := by
  obtain ⟨n', h1, h2⟩ := h.tn
  exact ⟨h.told, n', h1, h2.back hb⟩
theorem PutP.same {w w' : World} {d b n : Nat} {L : List Ent} {c : Int} {e : Ending} (h : Tb w d b n L) (he : e = .returned (.int .i64 c)) (hb : Below w.heap.size w w') : PutP w d b n (L, c) e w' := ⟨he, n, Nat.le_succ n, Tn.of_below h hb⟩
theorem setF_ok {sc id : Int} {nm : ByteArray} {r : Orow} (hr : rowO nm = some r) (hp : placeF sc id nm = 0) (L : List Ent) (vl : ByteArray) : setF L sc id nm vl = putF L sc id nm vl r.kd := by
  unfold setF
  rw [hr]
  dsimp only
  rw [if_neg (fun q => q hp)]
theorem setF_no {sc id : Int} {nm : ByteArray} {c : Int} (hp : placeF sc id nm = c) (hc : c ≠ 0) (L : List Ent) (vl : ByteArray) : setF L sc id nm vl = (L, c) := by
  unfold setF
  cases hr : rowO nm with
  | none => rw [← hp]; unfold placeF; rw [hr]
  | some r => dsimp only; rw [hp, if_pos hc]
theorem addF_ok {sc id : Int} {nm : ByteArray} {r : Orow} (hr : rowO nm = some r) (hp : placeF sc id nm = 0) (L : List Ent) (vl : ByteArray) : addF L sc id nm vl = if isTxt r.kd then putF L sc id nm ((atF L sc id nm).getD r.first ++ vl) r.kd else (L, 125) := by
  unfold addF nowF
  rw [hr]
  dsimp only
  rw [if_neg (fun q => q hp), (rowO_mem hr).2]
theorem addF_no {sc id : Int} {nm : ByteArray} {c : Int} (hp : placeF sc id nm = c) (hc : c ≠ 0) (L : List Ent) (vl : ByteArray) : addF L sc id nm vl = (L, c) := by
  unfold addF
  cases hr : rowO nm with
  | none => rw [← hp]; unfold placeF; rw [hr]
  | some r => dsimp only; rw [hp, if_pos hc]
theorem turnF_ok {sc id : Int} {nm : ByteArray} {r : Orow} (hr : rowO nm = some r) (hp : placeF sc id nm = 0) (L : List Ent) : turnF L sc id nm = if isFlag r.kd then putF L sc id nm (if (atF L sc id nm).getD r.first = onT then offT else onT) r.kd else (L, 125) := by
  unfold turnF nowF
  rw [hr]
  dsimp only
  rw [if_neg (fun q => q hp), (rowO_mem hr).2]
theorem turnF_no {sc id : Int} {nm : ByteArray} {c : Int} (hp : placeF sc id nm = c) (hc : c ≠ 0) (L : List Ent) : turnF L sc id nm = (L, c) := by
  unfold turnF
  cases hr : rowO nm with
  | none => rw [← hp]; unfold placeF; rw [hr]
  | some r => dsimp only; rw [hp, if_pos hc]
theorem first_short : ∀ r ∈ rowsO, r.first.size ≤ 1024 := by decide
theorem now_short {L : List Ent} (hG : Good L) {sc id : Int} {nm : ByteArray} {r : Orow} (hr : rowO nm = some r) (ht : isTxt r.kd = true) : ((atF L sc id nm).getD r.first).size ≤ 1024 := by
  cases q : atF L sc id nm with
  | none => exact first_short r (rowO_mem hr).1
  | some v =>
    obtain ⟨_, r', hr', hc⟩ := hG.each _ (atF_mem q)
    obtain rfl : r = r' := Option.some.inj (hr.symm.trans hr')
    have hv := checkF_ok hc
    cases hk : r.kd with
    | txt => rw [hk] at hv; exact of_decide_eq_true hv
    | num lo hi => rw [hk] at ht; cases ht
    | key => rw [hk] at ht; cases ht
    | flag => rw [hk] at ht; cases ht
    | cho ws => rw [hk] at ht; cases ht
set_option maxHeartbeats 16000000 in
theorem value_any {w : World} {d b n : Nat} {L : List Ent} (h : Tb w d b n L) {sc id : Int} {nm : ByteArray} (hw : keyWf sc id nm) {g : Nat} {cap : Array Value} {rs : Int} {xb yb : Bool} {fs : ByteArray} :
    Calls Tryz.prog 54 #[.pointer (some ⟨d, 0, none⟩), .agg #[.int .i64 sc, .int .i64 id, .string nm], .agg #[.int .i64 rs, .func (.func g) #[] cap, .bool xb, .bool yb, .string fs]] w fun e w' => e = .returned (.string ((atF L sc id nm).getD fs)) ∧ Below w.heap.size w w' := by
  obtain ⟨W1, hW1, a1, b1, s1⟩ := two_blk (w := w) #[.int .i64 sc, .int .i64 id, .string nm] 69
  obtain ⟨W2, hW2, a2, b2, s2⟩ := two_blk (w := W1) #[.int .i64 rs, .func (.func g) #[] cap, .bool xb, .bool yb, .string fs] 51
  obtain ⟨Q1, hQ1⟩ : ∃ Q, w.heap.size = Q := ⟨_, rfl⟩
  obtain ⟨Q2, hQ2⟩ : ∃ Q, W1.heap.size = Q := ⟨_, rfl⟩
  rw [hQ1] at a1
  rw [hQ2] at a2
  have HBx : Hid (Bl w W2 Q1 sc id nm) := ⟨bst b1 b2, kpO b2 a1, Nat.le_of_eq hQ1⟩
  have hlk := h.look hw
  have HRs : Hid (∀ s hs, (atF L sc id nm).isSome = s → (atF L sc id nm).getD ⟨#[]⟩ = hs → (atF L sc id nm).getD fs = if s then hs else fs) := fun s hs e1 e2 => by
    cases q : atF L sc id nm with
    | none => rw [q] at e1 e2; subst e1; rfl
    | some v => rw [q] at e1 e2; subst e1; exact e2
  obtain ⟨has, hhas⟩ : ∃ x, (atF L sc id nm).isSome = x := ⟨_, rfl⟩
  obtain ⟨hs, hhs⟩ : ∃ x, (atF L sc id nm).getD ⟨#[]⟩ = x := ⟨_, rfl⟩
  have HRes := hidK (HRs.out has hs hhas hhs)
  rw [hhas, hhs] at hlk
  obtain ⟨rv, hrv⟩ : ∃ x, (atF L sc id nm).getD fs = x := ⟨_, rfl⟩
  rw [hrv] at HRes ⊢
  have HSx : Hid (∀ Y, Bl w Y Q1 sc id nm → Y.cell? ⟨d, 0, none⟩ = some (.map (some b)) ∧ Y.cell? ⟨Q1, 0, none⟩ = some (.int .i64 sc) ∧ Y.cell? ⟨Q1, 1, none⟩ = some (.int .i64 id) ∧ Y.cell? ⟨Q1, 2, none⟩ = some (.string nm) ∧ (Instr.lookup 57 (.map (some b)) (.agg #[.int .i64 sc, .int .i64 id, .string nm]) true).run Tryz.prog Y = .ok (.tuple #[.agg #[.string hs], .bool has]) Y) := fun Y hY => by
    have e1 := kpO hY.below h.blk
    exact ⟨cell_at e1 0, cell_at hY.q1 0, cell_at hY.q1 1, cell_at hY.q1 2, hlk Y (hY.below.block b h.lt.2)⟩
  have HB0 := hidK HBx.out.below
  have HA2 := hidK a2
  clear hlk hhas hhs hrv b1 b2 a1 a2 s1 s2 hw h HRs
  go_enter Tryz.func54, Tryz.ntmps54
  go_wp2_with fail
  refine wp_region_held_drew (S := (fun X => X.cell? ⟨d, 0, none⟩ = some (.map (some b)) ∧ X.cell? ⟨Q1, 0, none⟩ = some (.int .i64 sc) ∧ X.cell? ⟨Q1, 1, none⟩ = some (.int .i64 id) ∧ X.cell? ⟨Q1, 2, none⟩ = some (.string nm) ∧ (Instr.lookup 57 (.map (some b)) (.agg #[.int .i64 sc, .int .i64 id, .string nm]) true).run Tryz.prog X = .ok (.tuple #[.agg #[.string hs], .bool has]) X)) (by kernel_rfl) ?sP (fun hHeld => ?_)
  case sP => ((try dsimp only); exact HSx.out _ (by first | exact HBx.out | exact HBx.out.more (Below.refl _ _).drew | exact HBx.out.more ((Below.refl _ _).alloc (Nat.le_refl _) _) | exact HBx.out.more (((Below.refl _ _).alloc (Nat.le_refl _) _).setCell (Nat.le_refl _) _)))
  have HBn := hidK (HBx.out.more (Below.refl _ _).drew)
  clear HBx
  have HBx := hidK HBn.out
  clear HBn
  refine wpAnyH_take (i := 0) (oi := { dst := some 10, op := Op.move (Operand.tmp 0), type := 25, pos := "options.go:100", after := #[], guard := none }) (v := ?vP0n1) rfl (by kernel_rfl) (by kernel_rfl) (by kernel_rfl) (fun _ _ _ h => h) (Or.inl ⟨by rfl, ?yP0n1⟩) (by assumption) ?rP0n1
  case yP0n1 => (intro w hSw; (try dsimp only at hSw); first | (go_simp; done) | (go_simp; with_reducible rfl))
  try simp only [Act.put, List.setIfInBounds_toArray, List.set_cons_zero, List.set_cons_succ]
  refine wpAnyH_take (i := 1) (oi := { dst := some 11, op := Op.nilCheck (Operand.tmp 10), type := 0, pos := "options.go:100", after := #[{ on := 0, ground := Ground.data }], guard := none }) (v := ?vP1n2) rfl (by kernel_rfl) (by kernel_rfl) (by kernel_rfl) (fun _ _ _ h => h) (Or.inl ⟨by rfl, ?yP1n2⟩) (by assumption) ?rP1n2
  case yP1n2 => (intro w hSw; (try dsimp only at hSw); first | (go_simp; done) | (go_simp; with_reducible rfl))
  try simp only [Act.put, List.setIfInBounds_toArray, List.set_cons_zero, List.set_cons_succ]
  refine wpAnyH_take (i := 2) (oi := { dst := some 12, op := Op.fieldAddr 59 (Operand.tmp 11) 0, type := 0, pos := "options.go:100", after := #[{ on := 1, ground := Ground.data }], guard := none }) (v := ?vP2n3) rfl (by kernel_rfl) (by kernel_rfl) (by kernel_rfl) (fun _ _ _ h => h) (Or.inl ⟨by rfl, ?yP2n3⟩) (by assumption) ?rP2n3
  case yP2n3 => (intro w hSw; (try dsimp only at hSw); first | (go_simp; done) | (go_simp; with_reducible rfl))
  try simp only [Act.put, List.setIfInBounds_toArray, List.set_cons_zero, List.set_cons_succ]
  refine wpAnyH_take (i := 3) (oi := { dst := some 13, op := Op.load 57 (Operand.tmp 12), type := 57, pos := "options.go:100", after := #[{ on := 2, ground := Ground.data }], guard := none }) (v := ?vP3n4) rfl (by kernel_rfl) (by kernel_rfl) (by kernel_rfl) (fun _ _ _ h => h) (Or.inl ⟨by rfl, ?yP3n4⟩) (by assumption) ?rP3n4
  case yP3n4 => (intro w hSw; (try dsimp only at hSw); first | (go_simp; done) | (go_simp; with_reducible rfl))
  try simp only [Act.put, List.setIfInBounds_toArray, List.set_cons_zero, List.set_cons_succ]
  refine wpAnyH_take (i := 4) (oi := { dst := some 14, op := Op.load 69 (Operand.tmp 4), type := 69, pos := "options.go:100", after := #[], guard := none }) (v := ?vP4n5) rfl (by kernel_rfl) (by kernel_rfl) (by kernel_rfl) (fun _ _ _ h => h) (Or.inl ⟨by rfl, ?yP4n5⟩) (by assumption) ?rP4n5
  case yP4n5 => (intro w hSw; (try dsimp only at hSw); first | (go_simp; done) | (go_simp; with_reducible rfl))
  try simp only [Act.put, List.setIfInBounds_toArray, List.set_cons_zero, List.set_cons_succ]
  refine wpAnyH_take (i := 5) (oi := { dst := some 15, op := Op.lookup 57 (Operand.tmp 13) (Operand.tmp 14) true, type := 67, pos := "options.go:100", after := #[{ on := 3, ground := Ground.data }, { on := 4, ground := Ground.data }], guard := none }) (v := ?vP5n6) rfl (by kernel_rfl) (by kernel_rfl) (by kernel_rfl) (fun _ _ _ h => h) (Or.inl ⟨by rfl, ?yP5n6⟩) (by assumption) ?rP5n6
  case yP5n6 => (intro w hSw; (try dsimp only at hSw); first | (go_simp; done) | (go_simp; with_reducible rfl))
  try simp only [Act.put, List.setIfInBounds_toArray, List.set_cons_zero, List.set_cons_succ]
  refine wpAnyH_take (i := 6) (oi := { dst := some 9, op := Op.move (Operand.tmp 15), type := 67, pos := "options.go:100", after := #[{ on := 5, ground := Ground.data }], guard := none }) (v := ?vP6n7) rfl (by kernel_rfl) (by kernel_rfl) (by kernel_rfl) (fun _ _ _ h => h) (Or.inl ⟨by rfl, ?yP6n7⟩) (by assumption) ?rP6n7
  case yP6n7 => (intro w hSw; (try dsimp only at hSw); first | (go_simp; done) | (go_simp; with_reducible rfl))
  try simp only [Act.put, List.setIfInBounds_toArray, List.set_cons_zero, List.set_cons_succ]
  refine wpAnyH_take (i := 7) (oi := { dst := some 16, op := Op.extract (Operand.tmp 9) 0, type := 66, pos := "options.go:100", after := #[{ on := 6, ground := Ground.data }], guard := none }) (v := ?vP7n8) rfl (by kernel_rfl) (by kernel_rfl) (by kernel_rfl) (fun _ _ _ h => h) (Or.inl ⟨by rfl, ?yP7n8⟩) (by assumption) ?rP7n8
  case yP7n8 => (intro w hSw; (try dsimp only at hSw); first | (go_simp; done) | (go_simp; with_reducible rfl))
  try simp only [Act.put, List.setIfInBounds_toArray, List.set_cons_zero, List.set_cons_succ]
  refine wpAnyH_take (i := 8) (oi := { dst := some 17, op := Op.extract (Operand.tmp 9) 1, type := 4, pos := "options.go:100", after := #[{ on := 6, ground := Ground.data }, { on := 10, ground := Ground.gcOnly Departure.lateStores }], guard := none }) (v := ?vP8n9) rfl (by kernel_rfl) (by kernel_rfl) (by kernel_rfl) (fun _ _ _ h => h) (Or.inl ⟨by rfl, ?yP8n9⟩) (by assumption) ?rP8n9
  case yP8n9 => (intro w hSw; (try dsimp only at hSw); first | (go_simp; done) | (go_simp; with_reducible rfl))
  try simp only [Act.put, List.setIfInBounds_toArray, List.set_cons_zero, List.set_cons_succ]
  refine wpAnyH_ready (rs := [9]) (by kernel_rfl) (by simp) (AllReadyH.cons (o := { dst := some 7, op := Op.alloc 66, type := 0, pos := "options.go:100", after := #[], guard := none }) rfl (fun K hK => ?bPn10q0) AllReadyH.nil)
  go_simp
  refine hK.out _ _ ?kPn10o9 (fun hHeld10 => ?_)
  case kPn10o9 => ((try dsimp only); exact HSx.out _ (by first | exact HBx.out | exact HBx.out.more (Below.refl _ _).drew | exact HBx.out.more ((Below.refl _ _).alloc (Nat.le_refl _) _) | exact HBx.out.more (((Below.refl _ _).alloc (Nat.le_refl _) _).setCell (Nat.le_refl _) _)))
  clear hK K
  skip
  try simp only [Act.put, List.setIfInBounds_toArray, List.set_cons_zero, List.set_cons_succ]
  refine wpAnyH_ready (rs := [10]) (by kernel_rfl) (by simp) (AllReadyH.cons (o := { dst := none, op := Op.store 66 (Operand.tmp 7) (Operand.tmp 16), type := 0, pos := "options.go:100", after := #[{ on := 9, ground := Ground.data }, { on := 7, ground := Ground.data }, { on := 0, ground := Ground.phase }, { on := 1, ground := Ground.phase }, { on := 2, ground := Ground.phase }, { on := 3, ground := Ground.phase }, { on := 4, ground := Ground.phase }, { on := 5, ground := Ground.phase }, { on := 6, ground := Ground.phase }, { on := 7, ground := Ground.phase }, { on := 8, ground := Ground.textOnly Departure.lateStores }, { on := 9, ground := Ground.phase }], guard := none }) rfl (fun K hK => ?bPn11q0) AllReadyH.nil)
  go_simp
  refine hK.out _ _ ?kPn11o10 (fun hHeld11 => ?_)
  case kPn11o10 => ((try dsimp only); exact HSx.out _ (by first | exact HBx.out | exact HBx.out.more (Below.refl _ _).drew | exact HBx.out.more ((Below.refl _ _).alloc (Nat.le_refl _) _) | exact HBx.out.more (((Below.refl _ _).alloc (Nat.le_refl _) _).setCell (Nat.le_refl _) _)))
  clear hK K
  skip
  try simp only [Act.put, List.setIfInBounds_toArray, List.set_cons_zero, List.set_cons_succ]
  refine wpAnyH_take (i := 11) (oi := { dst := some 8, op := Op.assign (Operand.tmp 17), type := 4, pos := "options.go:100", after := #[{ on := 8, ground := Ground.data }, { on := 10, ground := Ground.chain }, { on := 0, ground := Ground.phase }, { on := 1, ground := Ground.phase }, { on := 2, ground := Ground.phase }, { on := 3, ground := Ground.phase }, { on := 4, ground := Ground.phase }, { on := 5, ground := Ground.phase }, { on := 6, ground := Ground.phase }, { on := 7, ground := Ground.phase }, { on := 8, ground := Ground.phase }, { on := 9, ground := Ground.phase }, { on := 10, ground := Ground.phase }], guard := none }) (v := ?vP11n12) rfl (by kernel_rfl) (by kernel_rfl) (by kernel_rfl) (fun _ _ _ h => h) (Or.inl ⟨by rfl, ?yP11n12⟩) (by assumption) ?rP11n12
  case yP11n12 => (intro w hSw; (try dsimp only at hSw); first | (go_simp; done) | (go_simp; with_reducible rfl))
  try simp only [Act.put, List.setIfInBounds_toArray, List.set_cons_zero, List.set_cons_succ]
  refine wpAnyH_done (by kernel_rfl) ?_ _
  refine gen_exitO (fun Y => Below W2.heap.size W2 Y ∧ Y.heap[W2.heap.size]? = some (.cells #[.string hs] 66 (0, 0))) ?g1 ?_
  case g1 => first | exact ⟨(Below.refl _ _).drew.alloc (Nat.le_refl _) _, heap_alloc_new W2.drew _⟩ | exact ⟨((Below.refl _ _).drew.alloc (Nat.le_refl _) _).setCell (Nat.le_refl _) _, put_at (heap_alloc_new W2.drew _) 0 _⟩
  rintro Y ⟨hy1, hy2⟩
  have HY := hidK (bst HB0.out hy1)
  obtain ⟨Q4, hQ4⟩ : ∃ Q, W2.heap.size = Q := ⟨_, rfl⟩
  rw [hQ4] at hy2 ⊢
  have m0 : Y.cell? ⟨Q4, 0, none⟩ = some (.string hs) := cell_at hy2 0
  have m1 : Y.cell? ⟨Q2, 2 + 2, none⟩ = some (.string fs) := cell_at (kpO hy1 HA2.out) 4
  have m2 : Y.cell? ⟨Q2, 4, none⟩ = some (.string fs) := m1
  clear hy1 hy2 hQ1 hQ2 hW1 hW2
  cases has with
  | false =>
    go_wp2_with fail
    go_ret
    exact ⟨by rw [HRes.out]; rfl, HY.out⟩
  | true =>
    go_wp2_with fail
    go_ret
    exact ⟨by rw [HRes.out]; rfl, HY.out⟩
end Go.Proofs.YtgdkpmfdpfjdjaaGreatDoor
