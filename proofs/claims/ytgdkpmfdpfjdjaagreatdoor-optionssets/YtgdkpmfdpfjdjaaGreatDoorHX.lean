/-
  Options: an option of a slot, if it can be set there.
  Options: an option of a slot: where there is none; find whole.
-/
import Derived.Test.YtgdkpmfdpfjdjaaGreatDoorOFnA
import Derived.Deep.DeepCutAuto
namespace Go.Proofs.YtgdkpmfdpfjdjaaGreatDoor
open Go.RowKit Go.Maps
set_option linter.unusedVariables false
set_option maxRecDepth 100000

/-- The option's block. -/
structure FndA (W X : World) (Q : Nat) (rs : Int) (f : Value) (xb yb : Bool) (fs : ByteArray) : Prop where
  below : Below W.heap.size W X
  q : X.heap[Q]? = some (.cells #[.int .i64 rs, f, .bool xb, .bool yb, .string fs] 51 (0, 0))
  ge : W.heap.size ≤ Q
theorem five_other {W : World} {i g : Nat} {o : Option Obj} (h : W.heap[i]? = o) (hn : i ≠ g) (v0 v1 v2 v3 v4 : Value) : (((((W.setCell ⟨g, 0, none⟩ v0).setCell ⟨g, 1, none⟩ v1).setCell ⟨g, 2, none⟩ v2).setCell ⟨g, 3, none⟩ v3).setCell ⟨g, 4, none⟩ v4).heap[i]? = o :=
  put_other (put_other (put_other (put_other (put_other h hn _ _) hn _ _) hn _ _) hn _ _) hn _ _
theorem five_below {w W : World} {g : Nat} (h : Below w.heap.size w W) (hg : w.heap.size ≤ g) (v0 v1 v2 v3 v4 : Value) : Below w.heap.size w (((((W.setCell ⟨g, 0, none⟩ v0).setCell ⟨g, 1, none⟩ v1).setCell ⟨g, 2, none⟩ v2).setCell ⟨g, 3, none⟩ v3).setCell ⟨g, 4, none⟩ v4) :=
  ((((h.setCell hg _).setCell hg _).setCell hg _).setCell hg _).setCell hg _
/-- The block that will hold the option, and what the table's kinds stand on. -/
structure FndP (W X : World) (Q b : Nat) (kd : Kd) (kv : Value) : Prop where
  below : Below W.heap.size W X
  q : X.heap[Q]? = some (.cells #[.int .i64 0, .nilFunc, .bool false, .bool false, .string ⟨#[]⟩] 51 (0, 0))
  ge : W.heap.size ≤ Q
  kind : W.heap.size ≤ b ∧ ∃ Y : World, KindAt Y b kd kv ∧ ∀ i o, b < i → Y.heap[i]? = some o → X.heap[i]? = some o ∧ i ≠ Q
theorem FndP.fin {W X : World} {Q b : Nat} {kd : Kd} {kv : Value} (h : FndP W X Q b kd kv) (rs : Int) (f : Value) (xb yb : Bool) (fs : ByteArray) :
    FndA W (((((X.setCell ⟨Q, 0, none⟩ (.int .i64 rs)).setCell ⟨Q, 1, none⟩ f).setCell ⟨Q, 2, none⟩ (.bool xb)).setCell ⟨Q, 3, none⟩ (.bool yb)).setCell ⟨Q, 4, none⟩ (.string fs)) Q rs f xb yb fs ∧ (W.heap.size ≤ b ∧ KindAt (((((X.setCell ⟨Q, 0, none⟩ (.int .i64 rs)).setCell ⟨Q, 1, none⟩ f).setCell ⟨Q, 2, none⟩ (.bool xb)).setCell ⟨Q, 3, none⟩ (.bool yb)).setCell ⟨Q, 4, none⟩ (.string fs)) b kd kv) := by
  obtain ⟨hb, Y, hk, ha⟩ := h.kind
  exact ⟨⟨five_below h.below h.ge _ _ _ _ _, five_atO h.q _ _ _ _ _, h.ge⟩, hb, hk.keep fun i o hi ho => five_other (ha i o hi ho).1 (ha i o hi ho).2 _ _ _ _ _⟩
/-- The call first, then the block. -/
theorem FndP.later {W Y : World} {b : Nat} {kd : Kd} {kv : Value} (hb : Below W.heap.size W Y) (hge : W.heap.size ≤ b) (hk : KindAt Y b kd kv) : FndP W (Y.alloc (.cells #[.int .i64 0, .nilFunc, .bool false, .bool false, .string ⟨#[]⟩] 51)) Y.heap.size b kd kv :=
  ⟨hb.alloc hb.size _, heap_alloc_new _ _, hb.size, hge, Y, hk, fun i o _ ho => ⟨alloc_at ho _, fun e => by have := lt_block ho; omega⟩⟩
theorem FndA.made {W Y : World} {b : Nat} {kd : Kd} {kv : Value} (hb : Below W.heap.size W Y) (hge : W.heap.size ≤ b) (hk : KindAt Y b kd kv) (rs : Int) (f : Value) (xb yb : Bool) (fs : ByteArray) : FndA W (Y.alloc (.cells #[.int .i64 rs, f, .bool xb, .bool yb, .string fs] 51)) Y.heap.size rs f xb yb fs ∧ (W.heap.size ≤ b ∧ KindAt (Y.alloc (.cells #[.int .i64 rs, f, .bool xb, .bool yb, .string fs] 51)) b kd kv) :=
  ⟨⟨hb.alloc hb.size _, heap_alloc_new _ _, hb.size⟩, hge, hk.keep fun i o _ ho => alloc_at ho _⟩
/-- The block first, then the call. -/
theorem FndP.first {W X Y : World} {Q : Nat} {kd : Kd} {kv : Value} (hb : Below W.heap.size W X) (hq : X.heap[Q]? = some (.cells #[.int .i64 0, .nilFunc, .bool false, .bool false, .string ⟨#[]⟩] 51 (0, 0))) (hge : W.heap.size ≤ Q) (hy : Below X.heap.size X Y) (hk : KindAt Y X.heap.size kd kv) : FndP W Y Q X.heap.size kd kv :=
  ⟨bst hb hy, kpO hy hq, hge, hb.size, Y, hk, fun i o hi ho => ⟨ho, fun e => by have := lt_block hq; omega⟩⟩
theorem run_store_nil (w : World) (a : Addr) (m : Mode) : (store a .nilFunc m).run Tryz.prog w = stored Tryz.prog w a .nilFunc m := run_store Tryz.prog w a .nilFunc m rfl
theorem placeF_row {sc id : Int} {k : ByteArray} {r : Orow} (h : rowO k = some r) : placeF sc id k = if isOfB r.scope sc = false then 231 else if idBad sc id = true then 1 else 0 := by
  unfold placeF
  rw [h]
theorem step_look {T : TypeId} {ops : Array Oper} {o : Oper} {a : Act} {K : Act → World → Prop} {Q : Exit → Act → World → Prop} {E : Prop} (w : World) (hgd : o.guard = none) (m x : Operand)
    (ho : o.op = .lookup T m x true) {b : Nat} {key v : Value} (hm : a.eval m = .map (some b)) (hx : a.eval x = key) (hrun : (Instr.lookup T (.map (some b)) key true).run Tryz.prog w = .ok v w)
    (h : K (a.put o.dst v) w) : if Region.wanted o (yielded ops a.tmps) = true then Oper.wp Tryz.prog o a w K Q else E := by
  have hw : Region.wanted o (yielded ops a.tmps) = true := by simp [Region.wanted, hgd]
  rw [if_pos hw]
  unfold Oper.wp
  simp [execOp, ho, hm, hx, hrun, Result.andThen]
  exact h
set_option maxHeartbeats 8000000 in
theorem find_some {w : World} (sc id : Int) (k : ByteArray) (hk : k.size ≤ 140737488355328) {r : Orow} (hr : rowO k = some r) :
    Calls Tryz.prog 49 #[.agg #[.int .i64 sc, .int .i64 id, .string k]] w fun e w' => Fnd w sc id k e w' := by
  obtain ⟨W1, hW1, a1, b1, s1⟩ := two_blk (w := w) #[.int .i64 sc, .int .i64 id, .string k] 69
  obtain ⟨W2, hW2, a2, b2, s2⟩ := two_blk (w := W1) #[.int .i64 0, .nilFunc, .bool false, .bool false, .string ⟨#[]⟩] 51
  obtain ⟨Q1, hQ1⟩ : ∃ Q, w.heap.size = Q := ⟨_, rfl⟩
  obtain ⟨Q2, hQ2⟩ : ∃ Q, W1.heap.size = Q := ⟨_, rfl⟩
  rw [hQ1] at a1
  rw [hQ2] at a2
  have a3 := kpO b2 a1
  have HSx : Hid (∀ Y, Below W2.heap.size W2 Y → Y.cell? ⟨Q1, 0, none⟩ = some (.int .i64 sc) ∧ Y.cell? ⟨Q1, 1, none⟩ = some (.int .i64 id) ∧ Y.cell? ⟨Q1, 2, none⟩ = some (.string k)) := fun Y hY => by
    have e1 := kpO hY a3
    exact ⟨cell_at e1 0, cell_at e1 1, cell_at e1 2⟩
  have HA := hidK (And.intro a3 a2)
  have HW := hidK (And.intro (bst b1 b2) (And.intro hQ1 (And.intro hQ2 (And.intro s1 s2))))
  have HBx := hidK (Below.refl W2.heap.size W2)
  have HR := hidK hr
  have HK : Hid (k.size ≤ maxLen) := by show _ ≤ _; unfold maxLen; omega
  have hrs := run_store_func
  have hrn := run_store_nil
  obtain ⟨rs, hrs0⟩ : ∃ x, r.scope = x := ⟨_, rfl⟩
  obtain ⟨xb, hxb⟩ : ∃ x, isTxt r.kd = x := ⟨_, rfl⟩
  obtain ⟨yb, hyb⟩ : ∃ x, isFlag r.kd = x := ⟨_, rfl⟩
  obtain ⟨fs, hfs⟩ : ∃ x, r.first = x := ⟨_, rfl⟩
  obtain ⟨kd, hkd⟩ : ∃ x, r.kd = x := ⟨_, rfl⟩
  have HE := hidK (And.intro hrs0 (And.intro hxb (And.intro hyb (And.intro hfs hkd))))
  clear hrs0 hxb hyb hfs hkd hr hk a1 a2 a3 b1 b2 s1 s2
  go_enter Tryz.func49, Tryz.ntmps49
  go_upto_region 1 with fail
  try rw [hW1, hQ1, hW2, hQ2]
  clear hW1 hW2 hQ1 hQ2
  go_cut [4, 5] (fun p v X => ∃ Q g cap b, p = .pointer (some ⟨Q, 0, none⟩) ∧ v = .bool true ∧ Hid (FndA W2 X Q rs (.func (.func g) #[] cap) xb yb fs) ∧ Hid (W2.heap.size ≤ b ∧ KindAt X b kd (.agg #[.func (.func g) #[] cap, .bool xb, .bool yb])))
  case first =>
    refine wp_region_held_drew (S := (fun X => X.cell? ⟨Q1, 0, none⟩ = some (.int .i64 sc) ∧ X.cell? ⟨Q1, 1, none⟩ = some (.int .i64 id) ∧ X.cell? ⟨Q1, 2, none⟩ = some (.string k))) (by kernel_rfl) ?sP (fun hHeld => ?_)
    case sP => ((try dsimp only); exact HSx.out _ (by first | exact HBx.out | exact HBx.out.drew | exact HBx.out.alloc HBx.out.size _ | exact five_below HBx.out (Nat.le_refl _) _ _ _ _ _))
    have HBn := hidK HBx.out.drew
    clear HBx
    have HBx := hidK HBn.out
    clear HBn
    refine wpAnyH_take (i := 1) (oi := { dst := some 10, op := Op.fieldAddr 69 (Operand.tmp 1) 1, type := 0, pos := "options.go:46", after := #[], guard := none }) (v := ?vP1n1) rfl (by kernel_rfl) (by kernel_rfl) (by kernel_rfl) (fun _ _ _ h => h) (Or.inl ⟨by rfl, ?yP1n1⟩) (by assumption) ?rP1n1
    case yP1n1 => (intro w hSw; (try dsimp only at hSw); first | (go_simp; done) | (go_simp; with_reducible rfl))
    try simp only [Act.put, List.setIfInBounds_toArray, List.set_cons_zero, List.set_cons_succ]
    refine wpAnyH_take (i := 2) (oi := { dst := some 11, op := Op.load 9 (Operand.tmp 10), type := 9, pos := "options.go:46", after := #[{ on := 1, ground := Ground.data }], guard := none }) (v := ?vP2n2) rfl (by kernel_rfl) (by kernel_rfl) (by kernel_rfl) (fun _ _ _ h => h) (Or.inl ⟨by rfl, ?yP2n2⟩) (by assumption) ?rP2n2
    case yP2n2 => (intro w hSw; (try dsimp only at hSw); first | (go_simp; done) | (go_simp; with_reducible rfl))
    try simp only [Act.put, List.setIfInBounds_toArray, List.set_cons_zero, List.set_cons_succ]
    refine wpAnyH_ready (rs := [0, 7]) (by kernel_rfl) (by simp) (AllReadyH.cons (o := { dst := some 9, op := Op.call { callee := Callee.value (Operand.func 20), args := #[], argTypes := #[] }, type := 46, pos := "options.go:46", after := #[], guard := none }) rfl (fun K hK => ?bPn3q0) (AllReadyH.cons (o := { dst := some 4, op := Op.alloc 51, type := 0, pos := "options.go:46", after := #[], guard := none }) rfl (fun K hK => ?bPn3q1) AllReadyH.nil))
    case bPn3q0 =>
      go_simp
      go_wp2_with (refine table_any.mono ?_; rintro e Y ⟨l, rfl, hT⟩; have hTb := hT.below; rcases hT.looks k HK.out with ⟨r', g, cap, hr', hkk, hlk⟩ | ⟨hno, -⟩; rotate_left; (rw [HR.out] at hno; cases hno); obtain rfl : r = r' := Option.some.inj (HR.out.symm.trans hr'); rw [HE.out.1, HE.out.2.1, HE.out.2.2.1, HE.out.2.2.2.1] at hlk; rw [HE.out.2.1, HE.out.2.2.1, HE.out.2.2.2.2] at hkk; have HBy := hidK (bst HBx.out hTb); have HLk := hidK hlk; have hrun := hlk Y rfl; have HBl := hidK hT.own.lt; have HFp := hidK (FndA.made HBy.out HBx.out.size hkk rs (.func (.func g) #[] cap) xb yb fs); clear HBx; have HBx := hidK HBy.out; clear hT hTb hkk hlk hr' HBy)
      refine hK.out _ _ ?kPn3o0 (fun hHeld3 => ?_)
      case kPn3o0 => ((try dsimp only); exact HSx.out _ (by first | exact HBx.out | exact HBx.out.drew | exact HBx.out.alloc HBx.out.size _ | exact five_below HBx.out (Nat.le_refl _) _ _ _ _ _))
      clear hK K
      try simp only [Act.put, List.setIfInBounds_toArray, List.set_cons_zero, List.set_cons_succ]
      refine wpAnyH_ready (rs := [3, 7]) (by kernel_rfl) (by simp) (AllReadyH.cons (o := { dst := some 12, op := Op.lookup 46 (Operand.tmp 9) (Operand.tmp 11) true, type := 60, pos := "options.go:46", after := #[{ on := 0, ground := Ground.data }, { on := 2, ground := Ground.data }], guard := none }) rfl (fun K hK => ?bPn4q0) (AllReadyH.cons (o := { dst := some 4, op := Op.alloc 51, type := 0, pos := "options.go:46", after := #[], guard := none }) rfl (fun K hK => ?bPn4q1) AllReadyH.nil))
      case bPn4q0 =>
        refine step_look _ rfl (.tmp 9) (.tmp 11) rfl ?_ ?_ hrun ?_
        · simp [Act.eval]
        · simp [Act.eval]
        refine hK.out _ _ ?kPn4o3 (fun hHeld4 => ?_)
        case kPn4o3 => ((try dsimp only); exact HSx.out _ (by first | exact HBx.out | exact HBx.out.drew | exact HBx.out.alloc HBx.out.size _ | exact five_below HBx.out (Nat.le_refl _) _ _ _ _ _))
        clear hK K
        try simp only [Act.put, List.setIfInBounds_toArray, List.set_cons_zero, List.set_cons_succ]
        refine wpAnyH_take (i := 4) (oi := { dst := some 8, op := Op.move (Operand.tmp 12), type := 60, pos := "options.go:46", after := #[{ on := 3, ground := Ground.data }], guard := none }) (v := ?vP4n5) rfl (by kernel_rfl) (by kernel_rfl) (by kernel_rfl) (fun _ _ _ h => h) (Or.inl ⟨by rfl, ?yP4n5⟩) (by assumption) ?rP4n5
        case yP4n5 => (intro w hSw; (try dsimp only at hSw); first | (go_simp; done) | (go_simp; with_reducible rfl))
        try simp only [Act.put, List.setIfInBounds_toArray, List.set_cons_zero, List.set_cons_succ]
        refine wpAnyH_take (i := 5) (oi := { dst := some 13, op := Op.extract (Operand.tmp 8) 0, type := 51, pos := "options.go:46", after := #[{ on := 4, ground := Ground.data }], guard := none }) (v := ?vP5n6) rfl (by kernel_rfl) (by kernel_rfl) (by kernel_rfl) (fun _ _ _ h => h) (Or.inl ⟨by rfl, ?yP5n6⟩) (by assumption) ?rP5n6
        case yP5n6 => (intro w hSw; (try dsimp only at hSw); first | (go_simp; done) | (go_simp; with_reducible rfl))
        try simp only [Act.put, List.setIfInBounds_toArray, List.set_cons_zero, List.set_cons_succ]
        refine wpAnyH_take (i := 6) (oi := { dst := some 14, op := Op.extract (Operand.tmp 8) 1, type := 4, pos := "options.go:46", after := #[{ on := 4, ground := Ground.data }, { on := 8, ground := Ground.gcOnly Departure.lateStores }], guard := none }) (v := ?vP6n7) rfl (by kernel_rfl) (by kernel_rfl) (by kernel_rfl) (fun _ _ _ h => h) (Or.inl ⟨by rfl, ?yP6n7⟩) (by assumption) ?rP6n7
        case yP6n7 => (intro w hSw; (try dsimp only at hSw); first | (go_simp; done) | (go_simp; with_reducible rfl))
        try simp only [Act.put, List.setIfInBounds_toArray, List.set_cons_zero, List.set_cons_succ]
        refine wpAnyH_ready (rs := [7]) (by kernel_rfl) (by simp) (AllReadyH.cons (o := { dst := some 4, op := Op.alloc 51, type := 0, pos := "options.go:46", after := #[], guard := none }) rfl (fun K hK => ?bPn8q0) AllReadyH.nil)
        go_simp
        refine hK.out _ _ ?kPn8o7 (fun hHeld8 => ?_)
        case kPn8o7 => ((try dsimp only); exact HSx.out _ (by first | exact HBx.out | exact HBx.out.drew | exact HBx.out.alloc HBx.out.size _ | exact five_below HBx.out (Nat.le_refl _) _ _ _ _ _))
        clear hK K
        have hrun := HLk.out (Y.alloc (.cells #[.int .i64 0, .nilFunc, .bool false, .bool false, .string ⟨#[]⟩] 51)) (Below.heap_alloc _ _ _ HBl.out)
        try simp only [Act.put, List.setIfInBounds_toArray, List.set_cons_zero, List.set_cons_succ]
        refine wpAnyH_ready (rs := [8]) (by kernel_rfl) (by simp) (AllReadyH.cons (o := { dst := none, op := Op.store 51 (Operand.tmp 4) (Operand.tmp 13), type := 0, pos := "options.go:46", after := #[{ on := 7, ground := Ground.data }, { on := 5, ground := Ground.data }, { on := 0, ground := Ground.chain }, { on := 0, ground := Ground.phase }, { on := 1, ground := Ground.phase }, { on := 2, ground := Ground.phase }, { on := 3, ground := Ground.phase }, { on := 4, ground := Ground.phase }, { on := 5, ground := Ground.phase }, { on := 6, ground := Ground.textOnly Departure.lateStores }, { on := 7, ground := Ground.phase }], guard := none }) rfl (fun K hK => ?bPn9q0) AllReadyH.nil)
        go_simp
        refine hK.out _ _ ?kPn9o8 (fun hHeld9 => ?_)
        case kPn9o8 => ((try dsimp only); exact HSx.out _ (by first | exact HBx.out | exact HBx.out.drew | exact HBx.out.alloc HBx.out.size _ | exact five_below HBx.out (Nat.le_refl _) _ _ _ _ _))
        clear hK K
        skip
        try simp only [Act.put, List.setIfInBounds_toArray, List.set_cons_zero, List.set_cons_succ]
        refine wpAnyH_take (i := 9) (oi := { dst := some 5, op := Op.assign (Operand.tmp 14), type := 4, pos := "options.go:46", after := #[{ on := 6, ground := Ground.data }, { on := 8, ground := Ground.chain }, { on := 0, ground := Ground.phase }, { on := 1, ground := Ground.phase }, { on := 2, ground := Ground.phase }, { on := 3, ground := Ground.phase }, { on := 4, ground := Ground.phase }, { on := 5, ground := Ground.phase }, { on := 6, ground := Ground.phase }, { on := 7, ground := Ground.phase }, { on := 8, ground := Ground.phase }], guard := none }) (v := ?vP9n10) rfl (by kernel_rfl) (by kernel_rfl) (by kernel_rfl) (fun _ _ _ h => h) (Or.inl ⟨by rfl, ?yP9n10⟩) (by assumption) ?rP9n10
        case yP9n10 => (intro w hSw; (try dsimp only at hSw); first | (go_simp; done) | (go_simp; with_reducible rfl))
        try simp only [Act.put, List.setIfInBounds_toArray, List.set_cons_zero, List.set_cons_succ]
        refine wpAnyH_done (by kernel_rfl) ?_ _
        go_wp2_with fail
        go_meet
        case rel => exact ⟨_, _, _, _, rfl, rfl, HFp.out.1, HFp.out.2⟩
      case bPn4q1 =>
        go_simp
        refine hK.out _ _ ?kPn4o7 (fun hHeld4 => ?_)
        case kPn4o7 => ((try dsimp only); exact HSx.out _ (by first | exact HBx.out | exact HBx.out.drew | exact HBx.out.alloc HBx.out.size _ | exact five_below HBx.out (Nat.le_refl _) _ _ _ _ _))
        clear hK K
        have hrun := HLk.out (Y.alloc (.cells #[.int .i64 0, .nilFunc, .bool false, .bool false, .string ⟨#[]⟩] 51)) (Below.heap_alloc _ _ _ HBl.out)
        try simp only [Act.put, List.setIfInBounds_toArray, List.set_cons_zero, List.set_cons_succ]
        refine wpAnyH_ready (rs := [3]) (by kernel_rfl) (by simp) (AllReadyH.cons (o := { dst := some 12, op := Op.lookup 46 (Operand.tmp 9) (Operand.tmp 11) true, type := 60, pos := "options.go:46", after := #[{ on := 0, ground := Ground.data }, { on := 2, ground := Ground.data }], guard := none }) rfl (fun K hK => ?bPn11q0) AllReadyH.nil)
        refine step_look _ rfl (.tmp 9) (.tmp 11) rfl ?_ ?_ hrun ?_
        · simp [Act.eval]
        · simp [Act.eval]
        refine hK.out _ _ ?kPn11o3 (fun hHeld11 => ?_)
        case kPn11o3 => ((try dsimp only); exact HSx.out _ (by first | exact HBx.out | exact HBx.out.drew | exact HBx.out.alloc HBx.out.size _ | exact five_below HBx.out (Nat.le_refl _) _ _ _ _ _))
        clear hK K
        try simp only [Act.put, List.setIfInBounds_toArray, List.set_cons_zero, List.set_cons_succ]
        refine wpAnyH_take (i := 4) (oi := { dst := some 8, op := Op.move (Operand.tmp 12), type := 60, pos := "options.go:46", after := #[{ on := 3, ground := Ground.data }], guard := none }) (v := ?vP4n12) rfl (by kernel_rfl) (by kernel_rfl) (by kernel_rfl) (fun _ _ _ h => h) (Or.inl ⟨by rfl, ?yP4n12⟩) (by assumption) ?rP4n12
        case yP4n12 => (intro w hSw; (try dsimp only at hSw); first | (go_simp; done) | (go_simp; with_reducible rfl))
        try simp only [Act.put, List.setIfInBounds_toArray, List.set_cons_zero, List.set_cons_succ]
        refine wpAnyH_take (i := 5) (oi := { dst := some 13, op := Op.extract (Operand.tmp 8) 0, type := 51, pos := "options.go:46", after := #[{ on := 4, ground := Ground.data }], guard := none }) (v := ?vP5n13) rfl (by kernel_rfl) (by kernel_rfl) (by kernel_rfl) (fun _ _ _ h => h) (Or.inl ⟨by rfl, ?yP5n13⟩) (by assumption) ?rP5n13
        case yP5n13 => (intro w hSw; (try dsimp only at hSw); first | (go_simp; done) | (go_simp; with_reducible rfl))
        try simp only [Act.put, List.setIfInBounds_toArray, List.set_cons_zero, List.set_cons_succ]
        refine wpAnyH_take (i := 6) (oi := { dst := some 14, op := Op.extract (Operand.tmp 8) 1, type := 4, pos := "options.go:46", after := #[{ on := 4, ground := Ground.data }, { on := 8, ground := Ground.gcOnly Departure.lateStores }], guard := none }) (v := ?vP6n14) rfl (by kernel_rfl) (by kernel_rfl) (by kernel_rfl) (fun _ _ _ h => h) (Or.inl ⟨by rfl, ?yP6n14⟩) (by assumption) ?rP6n14
        case yP6n14 => (intro w hSw; (try dsimp only at hSw); first | (go_simp; done) | (go_simp; with_reducible rfl))
        try simp only [Act.put, List.setIfInBounds_toArray, List.set_cons_zero, List.set_cons_succ]
        refine wpAnyH_ready (rs := [8]) (by kernel_rfl) (by simp) (AllReadyH.cons (o := { dst := none, op := Op.store 51 (Operand.tmp 4) (Operand.tmp 13), type := 0, pos := "options.go:46", after := #[{ on := 7, ground := Ground.data }, { on := 5, ground := Ground.data }, { on := 0, ground := Ground.chain }, { on := 0, ground := Ground.phase }, { on := 1, ground := Ground.phase }, { on := 2, ground := Ground.phase }, { on := 3, ground := Ground.phase }, { on := 4, ground := Ground.phase }, { on := 5, ground := Ground.phase }, { on := 6, ground := Ground.textOnly Departure.lateStores }, { on := 7, ground := Ground.phase }], guard := none }) rfl (fun K hK => ?bPn15q0) AllReadyH.nil)
        go_simp
        refine hK.out _ _ ?kPn15o8 (fun hHeld15 => ?_)
        case kPn15o8 => ((try dsimp only); exact HSx.out _ (by first | exact HBx.out | exact HBx.out.drew | exact HBx.out.alloc HBx.out.size _ | exact five_below HBx.out (Nat.le_refl _) _ _ _ _ _))
        clear hK K
        skip
        try simp only [Act.put, List.setIfInBounds_toArray, List.set_cons_zero, List.set_cons_succ]
        refine wpAnyH_take (i := 9) (oi := { dst := some 5, op := Op.assign (Operand.tmp 14), type := 4, pos := "options.go:46", after := #[{ on := 6, ground := Ground.data }, { on := 8, ground := Ground.chain }, { on := 0, ground := Ground.phase }, { on := 1, ground := Ground.phase }, { on := 2, ground := Ground.phase }, { on := 3, ground := Ground.phase }, { on := 4, ground := Ground.phase }, { on := 5, ground := Ground.phase }, { on := 6, ground := Ground.phase }, { on := 7, ground := Ground.phase }, { on := 8, ground := Ground.phase }], guard := none }) (v := ?vP9n16) rfl (by kernel_rfl) (by kernel_rfl) (by kernel_rfl) (fun _ _ _ h => h) (Or.inl ⟨by rfl, ?yP9n16⟩) (by assumption) ?rP9n16
        case yP9n16 => (intro w hSw; (try dsimp only at hSw); first | (go_simp; done) | (go_simp; with_reducible rfl))
        try simp only [Act.put, List.setIfInBounds_toArray, List.set_cons_zero, List.set_cons_succ]
        refine wpAnyH_done (by kernel_rfl) ?_ _
        go_wp2_with fail
        go_meet
        case rel => exact ⟨_, _, _, _, rfl, rfl, HFp.out.1, HFp.out.2⟩
    case bPn3q1 =>
      go_simp
      refine hK.out _ _ ?kPn3o7 (fun hHeld3 => ?_)
      case kPn3o7 => ((try dsimp only); exact HSx.out _ (by first | exact HBx.out | exact HBx.out.drew | exact HBx.out.alloc HBx.out.size _ | exact five_below HBx.out (Nat.le_refl _) _ _ _ _ _))
      clear hK K
      have HQz : Hid ((W2.drew.alloc (.cells #[.int .i64 0, .nilFunc, .bool false, .bool false, .string ⟨#[]⟩] 51)).heap[W2.heap.size]? = some (.cells #[.int .i64 0, .nilFunc, .bool false, .bool false, .string ⟨#[]⟩] 51 (0, 0))) := heap_alloc_new W2.drew _
      have HBn := hidK (HBx.out.alloc HBx.out.size (.cells #[.int .i64 0, .nilFunc, .bool false, .bool false, .string ⟨#[]⟩] 51))
      clear HBx
      have HBx := hidK HBn.out
      clear HBn
      try simp only [Act.put, List.setIfInBounds_toArray, List.set_cons_zero, List.set_cons_succ]
      refine wpAnyH_ready (rs := [0]) (by kernel_rfl) (by simp) (AllReadyH.cons (o := { dst := some 9, op := Op.call { callee := Callee.value (Operand.func 20), args := #[], argTypes := #[] }, type := 46, pos := "options.go:46", after := #[], guard := none }) rfl (fun K hK => ?bPn17q0) AllReadyH.nil)
      go_simp
      go_wp2_with (refine table_any.mono ?_; rintro e Y ⟨l, rfl, hT⟩; have hTb := hT.below; rcases hT.looks k HK.out with ⟨r', g, cap, hr', hkk, hlk⟩ | ⟨hno, -⟩; rotate_left; (rw [HR.out] at hno; cases hno); obtain rfl : r = r' := Option.some.inj (HR.out.symm.trans hr'); rw [HE.out.1, HE.out.2.1, HE.out.2.2.1, HE.out.2.2.2.1] at hlk; rw [HE.out.2.1, HE.out.2.2.1, HE.out.2.2.2.2] at hkk; have hrun := hlk Y rfl; have hFp := FndP.first HBx.out HQz.out (Nat.le_refl _) hTb hkk; have HFp := hidK (hFp.fin rs (.func (.func g) #[] cap) xb yb fs); clear HBx HQz; have HBx := hidK hFp.below; have x0 := cell_at hFp.q 0; have x1 := cell_at hFp.q 1; have x2 := cell_at hFp.q 2; have x3 := cell_at hFp.q 3; have x4 := cell_at hFp.q 4; have y0 := free_at hFp.q 0; have y1 := free_at hFp.q 1; have y2 := free_at hFp.q 2; have y3 := free_at hFp.q 3; have y4 := free_at hFp.q 4; clear hT hTb hkk hlk hr' hFp)
      refine hK.out _ _ ?kPn17o0 (fun hHeld17 => ?_)
      case kPn17o0 => ((try dsimp only); exact HSx.out _ (by first | exact HBx.out | exact HBx.out.drew | exact HBx.out.alloc HBx.out.size _ | exact five_below HBx.out (Nat.le_refl _) _ _ _ _ _))
      clear hK K
      try simp only [Act.put, List.setIfInBounds_toArray, List.set_cons_zero, List.set_cons_succ]
      refine wpAnyH_ready (rs := [3]) (by kernel_rfl) (by simp) (AllReadyH.cons (o := { dst := some 12, op := Op.lookup 46 (Operand.tmp 9) (Operand.tmp 11) true, type := 60, pos := "options.go:46", after := #[{ on := 0, ground := Ground.data }, { on := 2, ground := Ground.data }], guard := none }) rfl (fun K hK => ?bPn18q0) AllReadyH.nil)
      refine step_look _ rfl (.tmp 9) (.tmp 11) rfl ?_ ?_ hrun ?_
      · simp [Act.eval]
      · simp [Act.eval]
      refine hK.out _ _ ?kPn18o3 (fun hHeld18 => ?_)
      case kPn18o3 => ((try dsimp only); exact HSx.out _ (by first | exact HBx.out | exact HBx.out.drew | exact HBx.out.alloc HBx.out.size _ | exact five_below HBx.out (Nat.le_refl _) _ _ _ _ _))
      clear hK K
      try simp only [Act.put, List.setIfInBounds_toArray, List.set_cons_zero, List.set_cons_succ]
      refine wpAnyH_take (i := 4) (oi := { dst := some 8, op := Op.move (Operand.tmp 12), type := 60, pos := "options.go:46", after := #[{ on := 3, ground := Ground.data }], guard := none }) (v := ?vP4n19) rfl (by kernel_rfl) (by kernel_rfl) (by kernel_rfl) (fun _ _ _ h => h) (Or.inl ⟨by rfl, ?yP4n19⟩) (by assumption) ?rP4n19
      case yP4n19 => (intro w hSw; (try dsimp only at hSw); first | (go_simp; done) | (go_simp; with_reducible rfl))
      try simp only [Act.put, List.setIfInBounds_toArray, List.set_cons_zero, List.set_cons_succ]
      refine wpAnyH_take (i := 5) (oi := { dst := some 13, op := Op.extract (Operand.tmp 8) 0, type := 51, pos := "options.go:46", after := #[{ on := 4, ground := Ground.data }], guard := none }) (v := ?vP5n20) rfl (by kernel_rfl) (by kernel_rfl) (by kernel_rfl) (fun _ _ _ h => h) (Or.inl ⟨by rfl, ?yP5n20⟩) (by assumption) ?rP5n20
      case yP5n20 => (intro w hSw; (try dsimp only at hSw); first | (go_simp; done) | (go_simp; with_reducible rfl))
      try simp only [Act.put, List.setIfInBounds_toArray, List.set_cons_zero, List.set_cons_succ]
      refine wpAnyH_take (i := 6) (oi := { dst := some 14, op := Op.extract (Operand.tmp 8) 1, type := 4, pos := "options.go:46", after := #[{ on := 4, ground := Ground.data }, { on := 8, ground := Ground.gcOnly Departure.lateStores }], guard := none }) (v := ?vP6n21) rfl (by kernel_rfl) (by kernel_rfl) (by kernel_rfl) (fun _ _ _ h => h) (Or.inl ⟨by rfl, ?yP6n21⟩) (by assumption) ?rP6n21
      case yP6n21 => (intro w hSw; (try dsimp only at hSw); first | (go_simp; done) | (go_simp; with_reducible rfl))
      try simp only [Act.put, List.setIfInBounds_toArray, List.set_cons_zero, List.set_cons_succ]
      refine wpAnyH_ready (rs := [8]) (by kernel_rfl) (by simp) (AllReadyH.cons (o := { dst := none, op := Op.store 51 (Operand.tmp 4) (Operand.tmp 13), type := 0, pos := "options.go:46", after := #[{ on := 7, ground := Ground.data }, { on := 5, ground := Ground.data }, { on := 0, ground := Ground.chain }, { on := 0, ground := Ground.phase }, { on := 1, ground := Ground.phase }, { on := 2, ground := Ground.phase }, { on := 3, ground := Ground.phase }, { on := 4, ground := Ground.phase }, { on := 5, ground := Ground.phase }, { on := 6, ground := Ground.textOnly Departure.lateStores }, { on := 7, ground := Ground.phase }], guard := none }) rfl (fun K hK => ?bPn22q0) AllReadyH.nil)
      go_simp
      refine hK.out _ _ ?kPn22o8 (fun hHeld22 => ?_)
      case kPn22o8 => ((try dsimp only); exact HSx.out _ (by first | exact HBx.out | exact HBx.out.drew | exact HBx.out.alloc HBx.out.size _ | exact five_below HBx.out (Nat.le_refl _) _ _ _ _ _))
      clear hK K
      skip
      try simp only [Act.put, List.setIfInBounds_toArray, List.set_cons_zero, List.set_cons_succ]
      refine wpAnyH_take (i := 9) (oi := { dst := some 5, op := Op.assign (Operand.tmp 14), type := 4, pos := "options.go:46", after := #[{ on := 6, ground := Ground.data }, { on := 8, ground := Ground.chain }, { on := 0, ground := Ground.phase }, { on := 1, ground := Ground.phase }, { on := 2, ground := Ground.phase }, { on := 3, ground := Ground.phase }, { on := 4, ground := Ground.phase }, { on := 5, ground := Ground.phase }, { on := 6, ground := Ground.phase }, { on := 7, ground := Ground.phase }, { on := 8, ground := Ground.phase }], guard := none }) (v := ?vP9n23) rfl (by kernel_rfl) (by kernel_rfl) (by kernel_rfl) (fun _ _ _ h => h) (Or.inl ⟨by rfl, ?yP9n23⟩) (by assumption) ?rP9n23
      case yP9n23 => (intro w hSw; (try dsimp only at hSw); first | (go_simp; done) | (go_simp; with_reducible rfl))
      try simp only [Act.put, List.setIfInBounds_toArray, List.set_cons_zero, List.set_cons_succ]
      refine wpAnyH_done (by kernel_rfl) ?_ _
      go_wp2_with fail
      go_meet
      case rel => exact ⟨_, _, _, _, rfl, rfl, HFp.out.1, HFp.out.2⟩
  case rest =>
    obtain ⟨Q, g, cap, b, rfl, rfl, HF, HKd⟩ := hcut
    obtain ⟨c0, c1, c2⟩ := HSx.out wc HF.out.below
    have HIs : Hid (∀ X, Calls Tryz.prog 69 #[.agg #[.int .i64 rs, .func (.func g) #[] cap, .bool xb, .bool yb, .string fs], .int .i64 sc] X fun e w' => e = .returned (.bool (isOfB rs sc)) ∧ Below X.heap.size X w') := fun X => isOf_any rs sc (.func (.func g) #[] cap) xb yb fs X
    obtain ⟨ob, hob⟩ : ∃ x, isOfB rs sc = x := ⟨_, rfl⟩
    rw [hob] at HIs
    have HOb := hidK hob
    clear hob
    go_upto_region 2 with fail
    go_quiet ((fail))
    obtain ⟨Y, hY⟩ : ∃ Y, wc.drewN nq = Y := ⟨_, rfl⟩
    have hFy : Y.heap[Q]? = some (.cells #[.int .i64 rs, .func (.func g) #[] cap, .bool xb, .bool yb, .string fs] 51 (0, 0)) := by rw [← hY]; exact HF.out.q
    have HFy := hidK hFy
    have HBy : Hid (Below W2.heap.size W2 Y) := by show Below _ _ _; rw [← hY]; exact HF.out.below.trans ⟨rfl, rfl, rfl, Nat.le_refl _, fun _ _ => rfl⟩
    have HKy : Hid (KindAt Y b kd (.agg #[.func (.func g) #[] cap, .bool xb, .bool yb])) := by show KindAt _ _ _ _; rw [← hY]; exact HKd.out.2.keep fun _ _ _ h => h
    have HKb0 := hidK HKd.out.1
    rw [hY]
    clear hY HF HKd c0 c1 c2
    have d0 := cell_at hFy 0
    have d1 := cell_at hFy 1
    have d2 := cell_at hFy 2
    have d3 := cell_at hFy 3
    have d4 := cell_at hFy 4
    clear hFy
    go_wp2_with fail
    refine (HIs.out _).mono ?_
    rintro e Z ⟨rfl, hbz⟩
    have HZ2 : Hid (Z.heap[Q2]? = some (.cells #[.int .i64 0, .nilFunc, .bool false, .bool false, .string ⟨#[]⟩] 51 (0, 0))) := kpO hbz (kpO HBy.out HA.out.2)
    have HFz : Hid (Z.heap[Q]? = some (.cells #[.int .i64 rs, .func (.func g) #[] cap, .bool xb, .bool yb, .string fs] 51 (0, 0))) := kpO hbz HFy.out
    have HKz : Hid (KindAt Z b kd (.agg #[.func (.func g) #[] cap, .bool xb, .bool yb])) := HKy.out.keep fun _ _ _ h => kpO hbz h
    have HZb : Hid (Below w.heap.size w Z) := bst (bst HW.out.1 HBy.out) hbz
    have HQ2l : Hid (w.heap.size ≤ Q2) := by have := HW.out.2; show _ ≤ _; omega
    have HKb : Hid (w.heap.size ≤ b) := by have := HW.out.2; have := HKb0.out; show _ ≤ _; omega
    have HKb2 : Hid (Q2 < b) := by have := HW.out.2; have := HKb0.out; show _ < _; omega
    clear hbz HIs HKy HFy HBy HBx HSx d0 d1 d2 d3 d4
    have z0 := cell_at HZ2.out 0
    have z1 := cell_at HZ2.out 1
    have z2 := cell_at HZ2.out 2
    have z3 := cell_at HZ2.out 3
    have z4 := cell_at HZ2.out 4
    have y0 := free_at HZ2.out 0
    have y1 := free_at HZ2.out 1
    have y2 := free_at HZ2.out 2
    have y3 := free_at HZ2.out 3
    have y4 := free_at HZ2.out 4
    cases ob with
    | false =>
      have HPl : Hid (placeF sc id k = 231) := by show placeF _ _ _ = _; rw [placeF_row HR.out, HE.out.1, HOb.out]; rfl
      go_wp2_with fail
      refine ret2O rfl rfl (five_atO HZ2.out _ _ _ _ _) Tryz.underlying51 rfl infoOpt rfl ⟨five_below HZb.out HQ2l.out _ _ _ _ _, .inr ⟨by rw [HPl.out]; decide, by rw [HPl.out]; rfl⟩⟩
    | true =>
      by_cases h1 : id < 0
      · have HPl : Hid (placeF sc id k = 1) := by show placeF _ _ _ = _; rw [placeF_row HR.out, HE.out.1, HOb.out]; simp [idBad, h1]
        go_wp2_with fail
        refine ret2O rfl rfl (five_atO HZ2.out _ _ _ _ _) Tryz.underlying51 rfl infoOpt rfl ⟨five_below HZb.out HQ2l.out _ _ _ _ _, .inr ⟨by rw [HPl.out]; decide, by rw [HPl.out]; rfl⟩⟩
      · by_cases h2 : (4611686018427387904 : Int) < id
        · have HPl : Hid (placeF sc id k = 1) := by show placeF _ _ _ = _; rw [placeF_row HR.out, HE.out.1, HOb.out]; simp [idBad, h2]
          go_wp2_with fail
          refine ret2O rfl rfl (five_atO HZ2.out _ _ _ _ _) Tryz.underlying51 rfl infoOpt rfl ⟨five_below HZb.out HQ2l.out _ _ _ _ _, .inr ⟨by rw [HPl.out]; decide, by rw [HPl.out]; rfl⟩⟩
        · by_cases h3 : (0 : Int) < id
          · by_cases h4 : sc = 1
            · have HPl : Hid (placeF sc id k = 1) := by show placeF _ _ _ = _; rw [placeF_row HR.out, HE.out.1, HOb.out]; simp [idBad, h3, h4]
              subst h4
              go_wp2_with fail
              refine ret2O rfl rfl (five_atO HZ2.out _ _ _ _ _) Tryz.underlying51 rfl infoOpt rfl ⟨five_below HZb.out HQ2l.out _ _ _ _ _, .inr ⟨by rw [HPl.out]; decide, by rw [HPl.out]; rfl⟩⟩
            · have HPl : Hid (placeF sc id k = 0) := by show placeF _ _ _ = _; rw [placeF_row HR.out, HE.out.1, HOb.out]; simp [idBad, h1, h2, h3, h4]
              have d0 := cell_at HFz.out 0
              have d1 := cell_at HFz.out 1
              have d2 := cell_at HFz.out 2
              have d3 := cell_at HFz.out 3
              have d4 := cell_at HFz.out 4
              go_wp2_with fail
              refine ret2O rfl rfl (five_atO HZ2.out _ _ _ _ _) Tryz.underlying51 rfl infoOpt rfl ⟨five_below HZb.out HQ2l.out _ _ _ _ _, .inl ⟨r, g, cap, b, HR.out, HPl.out, HKb.out, ?_, by rw [HE.out.1, HE.out.2.1, HE.out.2.2.1, HE.out.2.2.2.1]; rfl⟩⟩
              rw [HE.out.2.1, HE.out.2.2.1, HE.out.2.2.2.2]
              exact HKz.out.keep fun i o hi ho => five_other ho (fun e => by have := HKb2.out; omega) _ _ _ _ _
          · have HPl : Hid (placeF sc id k = 0) := by show placeF _ _ _ = _; rw [placeF_row HR.out, HE.out.1, HOb.out]; simp [idBad, h1, h2, h3]
            have d0 := cell_at HFz.out 0
            have d1 := cell_at HFz.out 1
            have d2 := cell_at HFz.out 2
            have d3 := cell_at HFz.out 3
            have d4 := cell_at HFz.out 4
            go_wp2_with fail
            refine ret2O rfl rfl (five_atO HZ2.out _ _ _ _ _) Tryz.underlying51 rfl infoOpt rfl ⟨five_below HZb.out HQ2l.out _ _ _ _ _, .inl ⟨r, g, cap, b, HR.out, HPl.out, HKb.out, ?_, by rw [HE.out.1, HE.out.2.1, HE.out.2.2.1, HE.out.2.2.2.1]; rfl⟩⟩
            rw [HE.out.2.1, HE.out.2.2.1, HE.out.2.2.2.2]
            exact HKz.out.keep fun i o hi ho => five_other ho (fun e => by have := HKb2.out; omega) _ _ _ _ _
end Go.Proofs.YtgdkpmfdpfjdjaaGreatDoor

namespace Go.Proofs.YtgdkpmfdpfjdjaaGreatDoor
open Go.RowKit Go.Maps
set_option linter.unusedVariables false
set_option maxRecDepth 100000

set_option maxHeartbeats 8000000 in
theorem findO_none {w : World} (sc id : Int) (k : ByteArray) (hk : k.size ≤ 140737488355328) (hr : rowO k = none) :
    Calls Tryz.prog 49 #[.agg #[.int .i64 sc, .int .i64 id, .string k]] w fun e w' => Fnd w sc id k e w' := by
  obtain ⟨W1, hW1, a1, b1, s1⟩ := two_blk (w := w) #[.int .i64 sc, .int .i64 id, .string k] 69
  obtain ⟨W2, hW2, a2, b2, s2⟩ := two_blk (w := W1) #[.int .i64 0, .nilFunc, .bool false, .bool false, .string ⟨#[]⟩] 51
  obtain ⟨Q1, hQ1⟩ : ∃ Q, w.heap.size = Q := ⟨_, rfl⟩
  obtain ⟨Q2, hQ2⟩ : ∃ Q, W1.heap.size = Q := ⟨_, rfl⟩
  rw [hQ1] at a1
  rw [hQ2] at a2
  have a3 := kpO b2 a1
  have HSx : Hid (∀ Y, Below W2.heap.size W2 Y → Y.cell? ⟨Q1, 0, none⟩ = some (.int .i64 sc) ∧ Y.cell? ⟨Q1, 1, none⟩ = some (.int .i64 id) ∧ Y.cell? ⟨Q1, 2, none⟩ = some (.string k)) := fun Y hY => by
    have e1 := kpO hY a3
    exact ⟨cell_at e1 0, cell_at e1 1, cell_at e1 2⟩
  have HA := hidK (And.intro a3 a2)
  have HW := hidK (And.intro (bst b1 b2) (And.intro hQ1 (And.intro hQ2 (And.intro s1 s2))))
  have HBx := hidK (Below.refl W2.heap.size W2)
  have HR := hidK hr
  have HK : Hid (k.size ≤ maxLen) := by show _ ≤ _; unfold maxLen; omega
  have hrs := run_store_func
  have hrn := run_store_nil
  clear hr hk a1 a2 a3 b1 b2 s1 s2
  go_enter Tryz.func49, Tryz.ntmps49
  go_upto_region 1 with fail
  try rw [hW1, hQ1, hW2, hQ2]
  clear hW1 hW2 hQ1 hQ2
  go_cut [4, 5] (fun p v X => ∃ Q, p = .pointer (some ⟨Q, 0, none⟩) ∧ v = .bool false ∧ Hid (Below W2.heap.size W2 X))
  case first =>
    refine wp_region_held_drew (S := (fun X => X.cell? ⟨Q1, 0, none⟩ = some (.int .i64 sc) ∧ X.cell? ⟨Q1, 1, none⟩ = some (.int .i64 id) ∧ X.cell? ⟨Q1, 2, none⟩ = some (.string k))) (by kernel_rfl) ?sP (fun hHeld => ?_)
    case sP => ((try dsimp only); exact HSx.out _ (by first | exact HBx.out | exact HBx.out.drew | exact HBx.out.alloc HBx.out.size _ | exact five_below HBx.out (Nat.le_refl _) _ _ _ _ _))
    have HBn := hidK HBx.out.drew
    clear HBx
    have HBx := hidK HBn.out
    clear HBn
    refine wpAnyH_take (i := 1) (oi := { dst := some 10, op := Op.fieldAddr 69 (Operand.tmp 1) 1, type := 0, pos := "options.go:46", after := #[], guard := none }) (v := ?vP1n1) rfl (by kernel_rfl) (by kernel_rfl) (by kernel_rfl) (fun _ _ _ h => h) (Or.inl ⟨by rfl, ?yP1n1⟩) (by assumption) ?rP1n1
    case yP1n1 => (intro w hSw; (try dsimp only at hSw); first | (go_simp; done) | (go_simp; with_reducible rfl))
    try simp only [Act.put, List.setIfInBounds_toArray, List.set_cons_zero, List.set_cons_succ]
    refine wpAnyH_take (i := 2) (oi := { dst := some 11, op := Op.load 9 (Operand.tmp 10), type := 9, pos := "options.go:46", after := #[{ on := 1, ground := Ground.data }], guard := none }) (v := ?vP2n2) rfl (by kernel_rfl) (by kernel_rfl) (by kernel_rfl) (fun _ _ _ h => h) (Or.inl ⟨by rfl, ?yP2n2⟩) (by assumption) ?rP2n2
    case yP2n2 => (intro w hSw; (try dsimp only at hSw); first | (go_simp; done) | (go_simp; with_reducible rfl))
    try simp only [Act.put, List.setIfInBounds_toArray, List.set_cons_zero, List.set_cons_succ]
    refine wpAnyH_ready (rs := [0, 7]) (by kernel_rfl) (by simp) (AllReadyH.cons (o := { dst := some 9, op := Op.call { callee := Callee.value (Operand.func 20), args := #[], argTypes := #[] }, type := 46, pos := "options.go:46", after := #[], guard := none }) rfl (fun K hK => ?bPn3q0) (AllReadyH.cons (o := { dst := some 4, op := Op.alloc 51, type := 0, pos := "options.go:46", after := #[], guard := none }) rfl (fun K hK => ?bPn3q1) AllReadyH.nil))
    case bPn3q0 =>
      go_simp
      go_wp2_with (refine table_any.mono ?_; rintro e Y ⟨l, rfl, hT⟩; have hTb := hT.below; rcases hT.looks k HK.out with ⟨r', g, cap, hr', hkk, hlk⟩ | ⟨-, hlk⟩; (rw [HR.out] at hr'; cases hr'); have HBy := hidK (bst HBx.out hTb); have HLk := hidK hlk; have hrun := hlk Y rfl; have HBl := hidK hT.own.lt; clear HBx; have HBx := hidK HBy.out; clear hT hTb hlk HBy)
      refine hK.out _ _ ?kPn3o0 (fun hHeld3 => ?_)
      case kPn3o0 => ((try dsimp only); exact HSx.out _ (by first | exact HBx.out | exact HBx.out.drew | exact HBx.out.alloc HBx.out.size _ | exact five_below HBx.out (Nat.le_refl _) _ _ _ _ _))
      clear hK K
      try simp only [Act.put, List.setIfInBounds_toArray, List.set_cons_zero, List.set_cons_succ]
      refine wpAnyH_ready (rs := [3, 7]) (by kernel_rfl) (by simp) (AllReadyH.cons (o := { dst := some 12, op := Op.lookup 46 (Operand.tmp 9) (Operand.tmp 11) true, type := 60, pos := "options.go:46", after := #[{ on := 0, ground := Ground.data }, { on := 2, ground := Ground.data }], guard := none }) rfl (fun K hK => ?bPn4q0) (AllReadyH.cons (o := { dst := some 4, op := Op.alloc 51, type := 0, pos := "options.go:46", after := #[], guard := none }) rfl (fun K hK => ?bPn4q1) AllReadyH.nil))
      case bPn4q0 =>
        refine step_look _ rfl (.tmp 9) (.tmp 11) rfl ?_ ?_ hrun ?_
        · simp [Act.eval]
        · simp [Act.eval]
        refine hK.out _ _ ?kPn4o3 (fun hHeld4 => ?_)
        case kPn4o3 => ((try dsimp only); exact HSx.out _ (by first | exact HBx.out | exact HBx.out.drew | exact HBx.out.alloc HBx.out.size _ | exact five_below HBx.out (Nat.le_refl _) _ _ _ _ _))
        clear hK K
        try simp only [Act.put, List.setIfInBounds_toArray, List.set_cons_zero, List.set_cons_succ]
        refine wpAnyH_take (i := 4) (oi := { dst := some 8, op := Op.move (Operand.tmp 12), type := 60, pos := "options.go:46", after := #[{ on := 3, ground := Ground.data }], guard := none }) (v := ?vP4n5) rfl (by kernel_rfl) (by kernel_rfl) (by kernel_rfl) (fun _ _ _ h => h) (Or.inl ⟨by rfl, ?yP4n5⟩) (by assumption) ?rP4n5
        case yP4n5 => (intro w hSw; (try dsimp only at hSw); first | (go_simp; done) | (go_simp; with_reducible rfl))
        try simp only [Act.put, List.setIfInBounds_toArray, List.set_cons_zero, List.set_cons_succ]
        refine wpAnyH_take (i := 5) (oi := { dst := some 13, op := Op.extract (Operand.tmp 8) 0, type := 51, pos := "options.go:46", after := #[{ on := 4, ground := Ground.data }], guard := none }) (v := ?vP5n6) rfl (by kernel_rfl) (by kernel_rfl) (by kernel_rfl) (fun _ _ _ h => h) (Or.inl ⟨by rfl, ?yP5n6⟩) (by assumption) ?rP5n6
        case yP5n6 => (intro w hSw; (try dsimp only at hSw); first | (go_simp; done) | (go_simp; with_reducible rfl))
        try simp only [Act.put, List.setIfInBounds_toArray, List.set_cons_zero, List.set_cons_succ]
        refine wpAnyH_take (i := 6) (oi := { dst := some 14, op := Op.extract (Operand.tmp 8) 1, type := 4, pos := "options.go:46", after := #[{ on := 4, ground := Ground.data }, { on := 8, ground := Ground.gcOnly Departure.lateStores }], guard := none }) (v := ?vP6n7) rfl (by kernel_rfl) (by kernel_rfl) (by kernel_rfl) (fun _ _ _ h => h) (Or.inl ⟨by rfl, ?yP6n7⟩) (by assumption) ?rP6n7
        case yP6n7 => (intro w hSw; (try dsimp only at hSw); first | (go_simp; done) | (go_simp; with_reducible rfl))
        try simp only [Act.put, List.setIfInBounds_toArray, List.set_cons_zero, List.set_cons_succ]
        refine wpAnyH_ready (rs := [7]) (by kernel_rfl) (by simp) (AllReadyH.cons (o := { dst := some 4, op := Op.alloc 51, type := 0, pos := "options.go:46", after := #[], guard := none }) rfl (fun K hK => ?bPn8q0) AllReadyH.nil)
        go_simp
        refine hK.out _ _ ?kPn8o7 (fun hHeld8 => ?_)
        case kPn8o7 => ((try dsimp only); exact HSx.out _ (by first | exact HBx.out | exact HBx.out.drew | exact HBx.out.alloc HBx.out.size _ | exact five_below HBx.out (Nat.le_refl _) _ _ _ _ _))
        clear hK K
        have hrun := HLk.out (Y.alloc (.cells #[.int .i64 0, .nilFunc, .bool false, .bool false, .string ⟨#[]⟩] 51)) (Below.heap_alloc _ _ _ HBl.out)
        try simp only [Act.put, List.setIfInBounds_toArray, List.set_cons_zero, List.set_cons_succ]
        refine wpAnyH_ready (rs := [8]) (by kernel_rfl) (by simp) (AllReadyH.cons (o := { dst := none, op := Op.store 51 (Operand.tmp 4) (Operand.tmp 13), type := 0, pos := "options.go:46", after := #[{ on := 7, ground := Ground.data }, { on := 5, ground := Ground.data }, { on := 0, ground := Ground.chain }, { on := 0, ground := Ground.phase }, { on := 1, ground := Ground.phase }, { on := 2, ground := Ground.phase }, { on := 3, ground := Ground.phase }, { on := 4, ground := Ground.phase }, { on := 5, ground := Ground.phase }, { on := 6, ground := Ground.textOnly Departure.lateStores }, { on := 7, ground := Ground.phase }], guard := none }) rfl (fun K hK => ?bPn9q0) AllReadyH.nil)
        go_simp
        refine hK.out _ _ ?kPn9o8 (fun hHeld9 => ?_)
        case kPn9o8 => ((try dsimp only); exact HSx.out _ (by first | exact HBx.out | exact HBx.out.drew | exact HBx.out.alloc HBx.out.size _ | exact five_below HBx.out (Nat.le_refl _) _ _ _ _ _))
        clear hK K
        skip
        try simp only [Act.put, List.setIfInBounds_toArray, List.set_cons_zero, List.set_cons_succ]
        refine wpAnyH_take (i := 9) (oi := { dst := some 5, op := Op.assign (Operand.tmp 14), type := 4, pos := "options.go:46", after := #[{ on := 6, ground := Ground.data }, { on := 8, ground := Ground.chain }, { on := 0, ground := Ground.phase }, { on := 1, ground := Ground.phase }, { on := 2, ground := Ground.phase }, { on := 3, ground := Ground.phase }, { on := 4, ground := Ground.phase }, { on := 5, ground := Ground.phase }, { on := 6, ground := Ground.phase }, { on := 7, ground := Ground.phase }, { on := 8, ground := Ground.phase }], guard := none }) (v := ?vP9n10) rfl (by kernel_rfl) (by kernel_rfl) (by kernel_rfl) (fun _ _ _ h => h) (Or.inl ⟨by rfl, ?yP9n10⟩) (by assumption) ?rP9n10
        case yP9n10 => (intro w hSw; (try dsimp only at hSw); first | (go_simp; done) | (go_simp; with_reducible rfl))
        try simp only [Act.put, List.setIfInBounds_toArray, List.set_cons_zero, List.set_cons_succ]
        refine wpAnyH_done (by kernel_rfl) ?_ _
        go_wp2_with fail
        go_meet
        case rel => exact ⟨_, rfl, rfl, by first | exact HBx.out.alloc HBx.out.size _ | exact five_below HBx.out (Nat.le_refl _) _ _ _ _ _⟩
      case bPn4q1 =>
        go_simp
        refine hK.out _ _ ?kPn4o7 (fun hHeld4 => ?_)
        case kPn4o7 => ((try dsimp only); exact HSx.out _ (by first | exact HBx.out | exact HBx.out.drew | exact HBx.out.alloc HBx.out.size _ | exact five_below HBx.out (Nat.le_refl _) _ _ _ _ _))
        clear hK K
        have hrun := HLk.out (Y.alloc (.cells #[.int .i64 0, .nilFunc, .bool false, .bool false, .string ⟨#[]⟩] 51)) (Below.heap_alloc _ _ _ HBl.out)
        try simp only [Act.put, List.setIfInBounds_toArray, List.set_cons_zero, List.set_cons_succ]
        refine wpAnyH_ready (rs := [3]) (by kernel_rfl) (by simp) (AllReadyH.cons (o := { dst := some 12, op := Op.lookup 46 (Operand.tmp 9) (Operand.tmp 11) true, type := 60, pos := "options.go:46", after := #[{ on := 0, ground := Ground.data }, { on := 2, ground := Ground.data }], guard := none }) rfl (fun K hK => ?bPn11q0) AllReadyH.nil)
        refine step_look _ rfl (.tmp 9) (.tmp 11) rfl ?_ ?_ hrun ?_
        · simp [Act.eval]
        · simp [Act.eval]
        refine hK.out _ _ ?kPn11o3 (fun hHeld11 => ?_)
        case kPn11o3 => ((try dsimp only); exact HSx.out _ (by first | exact HBx.out | exact HBx.out.drew | exact HBx.out.alloc HBx.out.size _ | exact five_below HBx.out (Nat.le_refl _) _ _ _ _ _))
        clear hK K
        try simp only [Act.put, List.setIfInBounds_toArray, List.set_cons_zero, List.set_cons_succ]
        refine wpAnyH_take (i := 4) (oi := { dst := some 8, op := Op.move (Operand.tmp 12), type := 60, pos := "options.go:46", after := #[{ on := 3, ground := Ground.data }], guard := none }) (v := ?vP4n12) rfl (by kernel_rfl) (by kernel_rfl) (by kernel_rfl) (fun _ _ _ h => h) (Or.inl ⟨by rfl, ?yP4n12⟩) (by assumption) ?rP4n12
        case yP4n12 => (intro w hSw; (try dsimp only at hSw); first | (go_simp; done) | (go_simp; with_reducible rfl))
        try simp only [Act.put, List.setIfInBounds_toArray, List.set_cons_zero, List.set_cons_succ]
        refine wpAnyH_take (i := 5) (oi := { dst := some 13, op := Op.extract (Operand.tmp 8) 0, type := 51, pos := "options.go:46", after := #[{ on := 4, ground := Ground.data }], guard := none }) (v := ?vP5n13) rfl (by kernel_rfl) (by kernel_rfl) (by kernel_rfl) (fun _ _ _ h => h) (Or.inl ⟨by rfl, ?yP5n13⟩) (by assumption) ?rP5n13
        case yP5n13 => (intro w hSw; (try dsimp only at hSw); first | (go_simp; done) | (go_simp; with_reducible rfl))
        try simp only [Act.put, List.setIfInBounds_toArray, List.set_cons_zero, List.set_cons_succ]
        refine wpAnyH_take (i := 6) (oi := { dst := some 14, op := Op.extract (Operand.tmp 8) 1, type := 4, pos := "options.go:46", after := #[{ on := 4, ground := Ground.data }, { on := 8, ground := Ground.gcOnly Departure.lateStores }], guard := none }) (v := ?vP6n14) rfl (by kernel_rfl) (by kernel_rfl) (by kernel_rfl) (fun _ _ _ h => h) (Or.inl ⟨by rfl, ?yP6n14⟩) (by assumption) ?rP6n14
        case yP6n14 => (intro w hSw; (try dsimp only at hSw); first | (go_simp; done) | (go_simp; with_reducible rfl))
        try simp only [Act.put, List.setIfInBounds_toArray, List.set_cons_zero, List.set_cons_succ]
        refine wpAnyH_ready (rs := [8]) (by kernel_rfl) (by simp) (AllReadyH.cons (o := { dst := none, op := Op.store 51 (Operand.tmp 4) (Operand.tmp 13), type := 0, pos := "options.go:46", after := #[{ on := 7, ground := Ground.data }, { on := 5, ground := Ground.data }, { on := 0, ground := Ground.chain }, { on := 0, ground := Ground.phase }, { on := 1, ground := Ground.phase }, { on := 2, ground := Ground.phase }, { on := 3, ground := Ground.phase }, { on := 4, ground := Ground.phase }, { on := 5, ground := Ground.phase }, { on := 6, ground := Ground.textOnly Departure.lateStores }, { on := 7, ground := Ground.phase }], guard := none }) rfl (fun K hK => ?bPn15q0) AllReadyH.nil)
        go_simp
        refine hK.out _ _ ?kPn15o8 (fun hHeld15 => ?_)
        case kPn15o8 => ((try dsimp only); exact HSx.out _ (by first | exact HBx.out | exact HBx.out.drew | exact HBx.out.alloc HBx.out.size _ | exact five_below HBx.out (Nat.le_refl _) _ _ _ _ _))
        clear hK K
        skip
        try simp only [Act.put, List.setIfInBounds_toArray, List.set_cons_zero, List.set_cons_succ]
        refine wpAnyH_take (i := 9) (oi := { dst := some 5, op := Op.assign (Operand.tmp 14), type := 4, pos := "options.go:46", after := #[{ on := 6, ground := Ground.data }, { on := 8, ground := Ground.chain }, { on := 0, ground := Ground.phase }, { on := 1, ground := Ground.phase }, { on := 2, ground := Ground.phase }, { on := 3, ground := Ground.phase }, { on := 4, ground := Ground.phase }, { on := 5, ground := Ground.phase }, { on := 6, ground := Ground.phase }, { on := 7, ground := Ground.phase }, { on := 8, ground := Ground.phase }], guard := none }) (v := ?vP9n16) rfl (by kernel_rfl) (by kernel_rfl) (by kernel_rfl) (fun _ _ _ h => h) (Or.inl ⟨by rfl, ?yP9n16⟩) (by assumption) ?rP9n16
        case yP9n16 => (intro w hSw; (try dsimp only at hSw); first | (go_simp; done) | (go_simp; with_reducible rfl))
        try simp only [Act.put, List.setIfInBounds_toArray, List.set_cons_zero, List.set_cons_succ]
        refine wpAnyH_done (by kernel_rfl) ?_ _
        go_wp2_with fail
        go_meet
        case rel => exact ⟨_, rfl, rfl, by first | exact HBx.out.alloc HBx.out.size _ | exact five_below HBx.out (Nat.le_refl _) _ _ _ _ _⟩
    case bPn3q1 =>
      go_simp
      refine hK.out _ _ ?kPn3o7 (fun hHeld3 => ?_)
      case kPn3o7 => ((try dsimp only); exact HSx.out _ (by first | exact HBx.out | exact HBx.out.drew | exact HBx.out.alloc HBx.out.size _ | exact five_below HBx.out (Nat.le_refl _) _ _ _ _ _))
      clear hK K
      have HQz : Hid ((W2.drew.alloc (.cells #[.int .i64 0, .nilFunc, .bool false, .bool false, .string ⟨#[]⟩] 51)).heap[W2.heap.size]? = some (.cells #[.int .i64 0, .nilFunc, .bool false, .bool false, .string ⟨#[]⟩] 51 (0, 0))) := heap_alloc_new W2.drew _
      have HBn := hidK (HBx.out.alloc HBx.out.size (.cells #[.int .i64 0, .nilFunc, .bool false, .bool false, .string ⟨#[]⟩] 51))
      clear HBx
      have HBx := hidK HBn.out
      clear HBn
      try simp only [Act.put, List.setIfInBounds_toArray, List.set_cons_zero, List.set_cons_succ]
      refine wpAnyH_ready (rs := [0]) (by kernel_rfl) (by simp) (AllReadyH.cons (o := { dst := some 9, op := Op.call { callee := Callee.value (Operand.func 20), args := #[], argTypes := #[] }, type := 46, pos := "options.go:46", after := #[], guard := none }) rfl (fun K hK => ?bPn17q0) AllReadyH.nil)
      go_simp
      go_wp2_with (refine table_any.mono ?_; rintro e Y ⟨l, rfl, hT⟩; have hTb := hT.below; rcases hT.looks k HK.out with ⟨r', g, cap, hr', hkk, hlk⟩ | ⟨-, hlk⟩; (rw [HR.out] at hr'; cases hr'); have hrun := hlk Y rfl; have hFp := kpO hTb HQz.out; have HBy := hidK (bst HBx.out hTb); clear HBx HQz; have HBx := hidK HBy.out; have x0 := cell_at hFp 0; have x1 := cell_at hFp 1; have x2 := cell_at hFp 2; have x3 := cell_at hFp 3; have x4 := cell_at hFp 4; have y0 := free_at hFp 0; have y1 := free_at hFp 1; have y2 := free_at hFp 2; have y3 := free_at hFp 3; have y4 := free_at hFp 4; clear hT hTb hlk hFp HBy)
      refine hK.out _ _ ?kPn17o0 (fun hHeld17 => ?_)
      case kPn17o0 => ((try dsimp only); exact HSx.out _ (by first | exact HBx.out | exact HBx.out.drew | exact HBx.out.alloc HBx.out.size _ | exact five_below HBx.out (Nat.le_refl _) _ _ _ _ _))
      clear hK K
      try simp only [Act.put, List.setIfInBounds_toArray, List.set_cons_zero, List.set_cons_succ]
      refine wpAnyH_ready (rs := [3]) (by kernel_rfl) (by simp) (AllReadyH.cons (o := { dst := some 12, op := Op.lookup 46 (Operand.tmp 9) (Operand.tmp 11) true, type := 60, pos := "options.go:46", after := #[{ on := 0, ground := Ground.data }, { on := 2, ground := Ground.data }], guard := none }) rfl (fun K hK => ?bPn18q0) AllReadyH.nil)
      refine step_look _ rfl (.tmp 9) (.tmp 11) rfl ?_ ?_ hrun ?_
      · simp [Act.eval]
      · simp [Act.eval]
      refine hK.out _ _ ?kPn18o3 (fun hHeld18 => ?_)
      case kPn18o3 => ((try dsimp only); exact HSx.out _ (by first | exact HBx.out | exact HBx.out.drew | exact HBx.out.alloc HBx.out.size _ | exact five_below HBx.out (Nat.le_refl _) _ _ _ _ _))
      clear hK K
      try simp only [Act.put, List.setIfInBounds_toArray, List.set_cons_zero, List.set_cons_succ]
      refine wpAnyH_take (i := 4) (oi := { dst := some 8, op := Op.move (Operand.tmp 12), type := 60, pos := "options.go:46", after := #[{ on := 3, ground := Ground.data }], guard := none }) (v := ?vP4n19) rfl (by kernel_rfl) (by kernel_rfl) (by kernel_rfl) (fun _ _ _ h => h) (Or.inl ⟨by rfl, ?yP4n19⟩) (by assumption) ?rP4n19
      case yP4n19 => (intro w hSw; (try dsimp only at hSw); first | (go_simp; done) | (go_simp; with_reducible rfl))
      try simp only [Act.put, List.setIfInBounds_toArray, List.set_cons_zero, List.set_cons_succ]
      refine wpAnyH_take (i := 5) (oi := { dst := some 13, op := Op.extract (Operand.tmp 8) 0, type := 51, pos := "options.go:46", after := #[{ on := 4, ground := Ground.data }], guard := none }) (v := ?vP5n20) rfl (by kernel_rfl) (by kernel_rfl) (by kernel_rfl) (fun _ _ _ h => h) (Or.inl ⟨by rfl, ?yP5n20⟩) (by assumption) ?rP5n20
      case yP5n20 => (intro w hSw; (try dsimp only at hSw); first | (go_simp; done) | (go_simp; with_reducible rfl))
      try simp only [Act.put, List.setIfInBounds_toArray, List.set_cons_zero, List.set_cons_succ]
      refine wpAnyH_take (i := 6) (oi := { dst := some 14, op := Op.extract (Operand.tmp 8) 1, type := 4, pos := "options.go:46", after := #[{ on := 4, ground := Ground.data }, { on := 8, ground := Ground.gcOnly Departure.lateStores }], guard := none }) (v := ?vP6n21) rfl (by kernel_rfl) (by kernel_rfl) (by kernel_rfl) (fun _ _ _ h => h) (Or.inl ⟨by rfl, ?yP6n21⟩) (by assumption) ?rP6n21
      case yP6n21 => (intro w hSw; (try dsimp only at hSw); first | (go_simp; done) | (go_simp; with_reducible rfl))
      try simp only [Act.put, List.setIfInBounds_toArray, List.set_cons_zero, List.set_cons_succ]
      refine wpAnyH_ready (rs := [8]) (by kernel_rfl) (by simp) (AllReadyH.cons (o := { dst := none, op := Op.store 51 (Operand.tmp 4) (Operand.tmp 13), type := 0, pos := "options.go:46", after := #[{ on := 7, ground := Ground.data }, { on := 5, ground := Ground.data }, { on := 0, ground := Ground.chain }, { on := 0, ground := Ground.phase }, { on := 1, ground := Ground.phase }, { on := 2, ground := Ground.phase }, { on := 3, ground := Ground.phase }, { on := 4, ground := Ground.phase }, { on := 5, ground := Ground.phase }, { on := 6, ground := Ground.textOnly Departure.lateStores }, { on := 7, ground := Ground.phase }], guard := none }) rfl (fun K hK => ?bPn22q0) AllReadyH.nil)
      go_simp
      refine hK.out _ _ ?kPn22o8 (fun hHeld22 => ?_)
      case kPn22o8 => ((try dsimp only); exact HSx.out _ (by first | exact HBx.out | exact HBx.out.drew | exact HBx.out.alloc HBx.out.size _ | exact five_below HBx.out (Nat.le_refl _) _ _ _ _ _))
      clear hK K
      skip
      try simp only [Act.put, List.setIfInBounds_toArray, List.set_cons_zero, List.set_cons_succ]
      refine wpAnyH_take (i := 9) (oi := { dst := some 5, op := Op.assign (Operand.tmp 14), type := 4, pos := "options.go:46", after := #[{ on := 6, ground := Ground.data }, { on := 8, ground := Ground.chain }, { on := 0, ground := Ground.phase }, { on := 1, ground := Ground.phase }, { on := 2, ground := Ground.phase }, { on := 3, ground := Ground.phase }, { on := 4, ground := Ground.phase }, { on := 5, ground := Ground.phase }, { on := 6, ground := Ground.phase }, { on := 7, ground := Ground.phase }, { on := 8, ground := Ground.phase }], guard := none }) (v := ?vP9n23) rfl (by kernel_rfl) (by kernel_rfl) (by kernel_rfl) (fun _ _ _ h => h) (Or.inl ⟨by rfl, ?yP9n23⟩) (by assumption) ?rP9n23
      case yP9n23 => (intro w hSw; (try dsimp only at hSw); first | (go_simp; done) | (go_simp; with_reducible rfl))
      try simp only [Act.put, List.setIfInBounds_toArray, List.set_cons_zero, List.set_cons_succ]
      refine wpAnyH_done (by kernel_rfl) ?_ _
      go_wp2_with fail
      go_meet
      case rel => exact ⟨_, rfl, rfl, by first | exact HBx.out.alloc HBx.out.size _ | exact five_below HBx.out (Nat.le_refl _) _ _ _ _ _⟩
  case rest =>
    obtain ⟨Q, rfl, rfl, HF⟩ := hcut
    obtain ⟨c0, c1, c2⟩ := HSx.out wc HF.out
    go_upto_region 2 with fail
    go_quiet ((fail))
    obtain ⟨Z, hY⟩ : ∃ Y, wc.drewN nq = Y := ⟨_, rfl⟩
    have HBy : Hid (Below W2.heap.size W2 Z) := by show Below _ _ _; rw [← hY]; exact HF.out.trans ⟨rfl, rfl, rfl, Nat.le_refl _, fun _ _ => rfl⟩
    rw [hY]
    clear hY HF c0 c1 c2
    have HZ2 : Hid (Z.heap[Q2]? = some (.cells #[.int .i64 0, .nilFunc, .bool false, .bool false, .string ⟨#[]⟩] 51 (0, 0))) := kpO HBy.out HA.out.2
    have HZb : Hid (Below w.heap.size w Z) := bst HW.out.1 HBy.out
    have HQ2l : Hid (w.heap.size ≤ Q2) := by have := HW.out.2; show _ ≤ _; omega
    have HPl : Hid (placeF sc id k = 230) := by show placeF _ _ _ = _; unfold placeF; rw [HR.out]
    clear HBy HBx HSx
    have z0 := cell_at HZ2.out 0
    have z1 := cell_at HZ2.out 1
    have z2 := cell_at HZ2.out 2
    have z3 := cell_at HZ2.out 3
    have z4 := cell_at HZ2.out 4
    have y0 := free_at HZ2.out 0
    have y1 := free_at HZ2.out 1
    have y2 := free_at HZ2.out 2
    have y3 := free_at HZ2.out 3
    have y4 := free_at HZ2.out 4
    go_wp2_with fail
    refine ret2O rfl rfl (five_atO HZ2.out _ _ _ _ _) Tryz.underlying51 rfl infoOpt rfl ⟨five_below HZb.out HQ2l.out _ _ _ _ _, .inr ⟨by rw [HPl.out]; decide, by rw [HPl.out]; rfl⟩⟩
theorem find_any {w : World} (sc id : Int) (k : ByteArray) (hk : k.size ≤ 140737488355328) :
    Calls Tryz.prog 49 #[.agg #[.int .i64 sc, .int .i64 id, .string k]] w fun e w' => Fnd w sc id k e w' := by
  cases hr : rowO k with
  | none => exact findO_none sc id k hk hr
  | some r => exact find_some sc id k hk hr
end Go.Proofs.YtgdkpmfdpfjdjaaGreatDoor
