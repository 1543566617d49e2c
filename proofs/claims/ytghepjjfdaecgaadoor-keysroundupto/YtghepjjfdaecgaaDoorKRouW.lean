/-
  Keys: the law of bytes and back.
-/
import Derived.Test.YtghepjjfdaecgaaDoorKRouN
import Derived.Deep.RegionHeld3
import Derived.Deep.DeepCutAuto
namespace Go.Proofs.YtghepjjfdaecgaaDoor
open Go.RowKit
set_option linter.unusedVariables false
set_option maxRecDepth 100000

theorem exc_cases {c m : Int} (hv : validB c m = true) : (c = 27 ∧ m = 0) ∨ (c = 27 ∧ m = 2) ∨ (c = 91 ∧ m = 0) ∨ (c = 91 ∧ m = 2) ∨ (c = 79 ∧ m = 0) ∨ (c = 79 ∧ m = 2) ∨ (c ≠ 27 ∧ c ≠ 91 ∧ c ≠ 79) := by
  by_cases h : c = 27
  · subst h
    have : m = 0 ∨ m = 2 := by simpa [validB, oneB, plainM] using hv
    omega
  · by_cases h1 : c = 91
    · subst h1
      have : m = 0 ∨ m = 2 := by simpa [validB, oneB, plainM, spcB, chrB, ctlB] using hv
      omega
    · by_cases h2 : c = 79
      · subst h2
        have : m = 0 ∨ m = 2 := by simpa [validB, oneB, plainM, spcB, chrB, ctlB] using hv
        omega
      · omega
theorem grown_below {w X X' : World} {v : Value} {ks : List (Int × Int)} (hb : Below w.heap.size w X) (hk : KeysAt X w.heap.size v ks) (hg : X.grownBy X' v.ownBlock) : Below w.heap.size w X' := by
  refine ⟨hg.os.trans hb.os, hg.tape.trans hb.tape, hg.output.trans hb.output, Nat.le_trans hb.size hg.size, fun k hk2 => ?_⟩
  rw [hg.block k (Nat.lt_of_lt_of_le hk2 hb.size) (fun e => by have := (hk.blk e.symm).1; omega), hb.block k hk2]
set_option maxHeartbeats 8000000 in
theorem keysRound_walk (ad : Option Addr) (cp : Nat) (l : List (Int × Int)) (app : Bool) (w : World) (hse : SeeK w (.slice ad l.length cp) l) (hl : l.length ≤ 1048576) (hT : Tabs w) : Calls Tryd.prog 4 #[.slice ad l.length cp, .bool app] w fun r w' => r = .returned (.bool true) ∧ Below w.heap.size w w' := by
  obtain ⟨n, hn⟩ : ∃ n, l.length = n := ⟨_, rfl⟩
  have HSe := hidK hse
  have HN := hidK hn
  have HTw := hidK (fun X (hX : Below w.heap.size w X) => hT.below hX)
  rw [hn] at hl HSe ⊢
  clear hse hn hT
  go_enter Tryd.func4, Tryd.ntmps4
  go_wp2_with fail
  go_loopw [5, 6, 7] (fun tv wv iv wr => ∃ (k : Nat) (T : ByteArray) (wn : Nat) (wa : Option Addr) (wc0 : Nat), k ≤ n ∧ iv = .int .i64 k ∧ tv = .string T ∧ wv = .slice wa wn wc0 ∧ Hid (str (txtF app (l.take k)) = T ∧ (wantF (l.take k)).length = wn ∧ Below w.heap.size w wr ∧ KeysAt wr w.heap.size (.slice wa wn wc0) (wantF (l.take k)))) (fun _ _ iv _ => n - (intOf iv).toNat)
  case atStart => exact ⟨0, ⟨#[]⟩, 0, none, 0, Nat.zero_le _, rfl, rfl, rfl, ⟨rfl, rfl, Below.refl _ _, KeysAt.nil _ _⟩⟩
  case round =>
    obtain ⟨k, T, wn, wa, wc0, hk, rfl, rfl, rfl, HR⟩ := hrel
    by_cases hlt : k < n
    · have hka : k < l.length := by rw [HN.out]; exact hlt
      obtain ⟨g, o, rfl, b1, b2⟩ := HSe.out.at k hka
      obtain ⟨⟨x, y⟩, hxy⟩ : ∃ q, l[k] = q := ⟨_, rfl⟩
      rw [hxy] at b1 b2
      simp only at b1 b2
      have HCw : Hid (∀ X, Below w.heap.size w X → X.cell? ⟨g, o + k * 2, none⟩ = some (.int .i64 x) ∧ X.cell? ⟨g, o + k * 2 + 1, none⟩ = some (.int .i64 y)) := fun X hX => ⟨(hX.cell (World.block_lt_of_cell? w _ b1)).trans b1, (hX.cell (World.block_lt_of_cell? w _ b2)).trans b2⟩
      have HTk : Hid (l.take (k + 1) = l.take k ++ [(x, y)]) := by show _ = _; rw [List.take_succ_eq_append_getElem hka, hxy]
      have hi1 : (k : Int) < (n : Int) := by omega
      obtain ⟨vb, hv⟩ : ∃ vb, validB x y = vb := ⟨_, rfl⟩
      have HVa := hidK (valid_any x y)
      rw [hv] at HVa
      clear b1 b2 hxy hka
      obtain ⟨e1, e2⟩ := HCw.out wr HR.out.2.2.1
      cases vb with
      | false =>
        have HNx := hidK (txt_not app (l.take k) (x, y) (by unfold goodB; rw [hv]; rfl))
        clear hv
        go_wp2_with fail
        refine (HVa.out _).mono ?_
        rintro e w1 ⟨rfl, hb1⟩
        have HRn : Hid (str (txtF app (l.take (k + 1))) = T ∧ (wantF (l.take (k + 1))).length = wn ∧ Below w.heap.size w w1 ∧ KeysAt w1 w.heap.size (.slice wa wn wc0) (wantF (l.take (k + 1)))) := by
          rw [HTk.out, HNx.out.1, HNx.out.2]
          exact ⟨HR.out.1, HR.out.2.1, below_step HR.out.2.2.1 hb1, HR.out.2.2.2.below hb1⟩
        clear hb1
        go_wp2_with fail
        go_roundw
        case rel => exact ⟨k + 1, T, wn, wa, wc0, by omega, by first | rfl | go_num, rfl, rfl, HRn⟩
        case measure => simp [intOf]; omega
      | true =>
        have HTo := hidK (key_told hv app)
        have HEx := hidK (exc_cases hv)
        have HGo : Hid (goodB (x, y) = !excB x y) := by show _ = _; unfold goodB; rw [hv]; rfl
        clear hv
        go_wp2_with fail
        refine (HVa.out _).mono ?_
        rintro e w1 ⟨rfl, hb1⟩
        have hB1 := below_step HR.out.2.2.1 hb1
        have hT1 := HTw.out _ hB1
        obtain ⟨W1, hW1⟩ : ∃ W1, w1.alloc (.cells #[.slice none 0 0] 54) = W1 := ⟨_, rfl⟩
        obtain ⟨d, hd⟩ : ∃ d, w1.heap.size = d := ⟨_, rfl⟩
        have hpi := Pi.new hT1
        rw [hW1, hd] at hpi
        have HNw := hidK (new_any w1)
        rw [hW1, hd] at HNw
        have hbW : Below w1.heap.size w1 W1 := by rw [← hW1]; exact (Below.refl _ _).alloc (Nat.le_refl _) _
        have hdW : W1.heap[d]? = some (.cells #[.slice none 0 0] 54 (0, 0)) := by rw [← hW1, ← hd]; exact heap_alloc_new w1 _
        have hBW := below_step hB1 hbW
        have hTW := HTw.out _ hBW
        have hwd : w.heap.size ≤ d := by rw [← hd]; exact hB1.size
        have HKW := hidK (And.intro ((HR.out.2.2.2.below hb1).below hbW) hdW)
        have HUn : Hid (∀ X h L, Pi W1 X d h L → Below w.heap.size w X ∧ KeysAt X w.heap.size (.slice wa wn wc0) (wantF (l.take k))) := fun X h L hp => ⟨hp.under hwd hBW, hp.old HKW.out.1 HKW.out.2⟩
        have HCl : Hid (∀ X h L, Pi W1 X d h L → X.cell? ⟨g, o + k * 2, none⟩ = some (.int .i64 x) ∧ X.cell? ⟨g, o + k * 2 + 1, none⟩ = some (.int .i64 y)) := fun X h L hp => HCw.out X (HUn.out X h L hp).1
        have HTb : Hid (∀ X h L, Pi W1 X d h L → Tabs X) := fun X h L hp => hp.tabs hTW
        obtain ⟨Bs, hBs⟩ : ∃ Bs, str (bytesF x y app) = Bs := ⟨_, rfl⟩
        have HBy : Hid (∀ X h L, Pi W1 X d h L → Calls Tryd.prog 15 #[.agg #[.int .i64 x, .int .i64 y], .bool app] X fun r w' => r = .returned (.string Bs) ∧ Below X.heap.size X w') := fun X h L hp => by rw [← hBs]; exact bytes_any x y app (hp.tabs hTW)
        obtain ⟨h1, hh1⟩ : ∃ h1, (feedF [] (bytesF x y app)).1 = h1 := ⟨_, rfl⟩
        obtain ⟨ks1, hks1⟩ : ∃ ks1, (feedF [] (bytesF x y app)).2 = ks1 := ⟨_, rfl⟩
        obtain ⟨ks2, hks2⟩ : ∃ ks2, flushF h1 = ks2 := ⟨_, rfl⟩
        have hsum : ks1 ++ ks2 = [(x, y)] := by rw [← hks2, ← hks1, ← hh1]; exact HTo.out.1
        have hl1 : h1.length ≤ 255 := by rw [← hh1]; exact feed_len _ _ (by simp)
        have hln : ks1.length + ks2.length = 1 := by rw [← List.length_append, hsum]; rfl
        obtain ⟨n1, hq1⟩ : ∃ n1, ks1.length = n1 := ⟨_, rfl⟩
        obtain ⟨n2, hq2⟩ : ∃ n2, ks2.length = n2 := ⟨_, rfl⟩
        have HFe : Hid (∀ X L, Pi W1 X d [] L → Calls Tryd.prog 10 #[.pointer (some ⟨d, 0, none⟩), .string Bs] X fun r X' => ∃ a c, r = .returned (.slice a n1 c) ∧ Pi W1 X' d h1 ((.slice a n1 c, ks1) :: L)) := fun X L hX => by
          have h := feed_pi hX hTW (by simp) (bytesF x y app) (by have := HTo.out.2.2; omega)
          rw [hh1, hks1, hBs, hq1] at h
          exact h
        have HFl : Hid (∀ X L, Pi W1 X d h1 L → Calls Tryd.prog 16 #[.pointer (some ⟨d, 0, none⟩)] X fun r X' => ∃ a c, r = .returned (.slice a n2 c) ∧ Pi W1 X' d [] ((.slice a n2 c, ks2) :: L)) := fun X L hX => by
          have h := flush_pi hX (by omega)
          rw [hks2, hq2] at h
          exact h
        have HSm : Hid (∀ X L v u, Pi W1 X d [] L → (v, [] ++ ks1 ++ ks2) ∈ L → (u, [(x, y)]) ∈ L → Calls Tryd.prog 12 #[v, u] X fun r w' => r = .returned (.bool true) ∧ Below X.heap.size X w') := fun X L v u hp hv hu => by
          have h := same_any (hp.rows _ hv).seeK (hp.rows _ hu).seeK (by simp; omega) (by simp)
          rw [List.nil_append, hsum, decide_eq_true rfl] at h
          exact h
        have HHe : Hid (∀ X L, Pi W1 X d [] L → Calls Tryd.prog 11 #[.pointer (some ⟨d, 0, none⟩)] X fun r w' => r = .returned (.string ⟨#[]⟩) ∧ X = w') := fun X L hp => by
          obtain ⟨v, hd⟩ := hp.dc
          exact held_any hd
        have HLn : Hid (([] ++ ks1).length + ks2.length ≤ 4000000 ∧ ([] : List (Int × Int)).length + ks1.length ≤ 4000000) := ⟨by simp; omega, by simp; omega⟩
        have HPi := hidK hpi
        have HBs := hidK hBs
        clear hb1 hB1 hT1 hpi hbW hdW hBW hTW hwd hh1 hks1 hks2 hsum hl1 hln hq1 hq2 hBs e1 e2
        go_wp2_with fail
        refine HNw.out.mono ?_
        rintro e X0 ⟨rfl, rfl⟩
        obtain ⟨e1, e2⟩ := HCl.out _ _ _ HPi.out
        go_wp2_with fail
        refine (HBy.out _ _ _ HPi.out).mono ?_
        rintro e w2 ⟨rfl, hb2⟩
        have HPn := hidK (HPi.out.more hb2)
        clear hb2 HPi e1 e2
        have HPi := hidK HPn.out
        clear HPn
        go_wp2_with fail
        refine (HFe.out _ _ HPi.out).mono ?_
        rintro e w3 ⟨aa, ca, rfl, hp3⟩
        clear HPi
        have HPi := hidK hp3
        clear hp3
        go_wp2_with fail
        refine (HFl.out _ _ HPi.out).mono ?_
        rintro e w4 ⟨ab, cb, rfl, hp4⟩
        clear HPi
        have HPi := hidK hp4
        clear hp4
        go_wp2_with fail
        go_cut [53] (fun v X => v = .bool false ∧ Hid (∃ L, Pi X0 X d [] L))
        case first =>
          refine wp_region_held_drew (S := (fun X => X.cell? ⟨g, o + k * 2, none⟩ = some (.int .i64 x) ∧ X.cell? ⟨g, o + k * 2 + 1, none⟩ = some (.int .i64 y))) (by kernel_rfl) ?sP (fun hHeld => ?_)
          case sP => ((try dsimp only); exact HCl.out _ _ _ (by first | exact HPi.out | exact HPi.out.more (Below.refl _ _).drew | exact HPi.out.empty | exact HPi.out.lit _ _))
          have HPn := hidK (HPi.out.more (Below.refl _ _).drew)
          clear HPi
          have HPi := hidK HPn.out
          clear HPn
          refine wpAnyH_take (i := 1) (oi := { dst := some 38, op := Op.move (Operand.tmp 9), type := 24, pos := "law.go:114", after := #[], guard := none }) (v := ?vP1n1) rfl (by kernel_rfl) (by kernel_rfl) (by kernel_rfl) (fun _ _ _ h => h) (Or.inl ⟨by rfl, ?yP1n1⟩) (by assumption) ?rP1n1
          case yP1n1 => (intro w hSw; (try dsimp only at hSw); first | (go_simp; done) | (go_simp; with_reducible rfl))
          try simp only [Act.put, List.setIfInBounds_toArray, List.set_cons_zero, List.set_cons_succ]
          refine wpAnyH_take (i := 3) (oi := { dst := some 40, op := Op.move (Operand.tmp 10), type := 24, pos := "law.go:114", after := #[], guard := none }) (v := ?vP3n2) rfl (by kernel_rfl) (by kernel_rfl) (by kernel_rfl) (fun _ _ _ h => h) (Or.inl ⟨by rfl, ?yP3n2⟩) (by assumption) ?rP3n2
          case yP3n2 => (intro w hSw; (try dsimp only at hSw); first | (go_simp; done) | (go_simp; with_reducible rfl))
          try simp only [Act.put, List.setIfInBounds_toArray, List.set_cons_zero, List.set_cons_succ]
          refine wpAnyH_take (i := 5) (oi := { dst := some 42, op := Op.move (Operand.tmp 0), type := 24, pos := "law.go:114", after := #[], guard := none }) (v := ?vP5n3) rfl (by kernel_rfl) (by kernel_rfl) (by kernel_rfl) (fun _ _ _ h => h) (Or.inl ⟨by rfl, ?yP5n3⟩) (by assumption) ?rP5n3
          case yP5n3 => (intro w hSw; (try dsimp only at hSw); first | (go_simp; done) | (go_simp; with_reducible rfl))
          try simp only [Act.put, List.setIfInBounds_toArray, List.set_cons_zero, List.set_cons_succ]
          refine wpAnyH_take (i := 6) (oi := { dst := some 43, op := Op.move (Operand.tmp 7), type := 3, pos := "law.go:114", after := #[], guard := none }) (v := ?vP6n4) rfl (by kernel_rfl) (by kernel_rfl) (by kernel_rfl) (fun _ _ _ h => h) (Or.inl ⟨by rfl, ?yP6n4⟩) (by assumption) ?rP6n4
          case yP6n4 => (intro w hSw; (try dsimp only at hSw); first | (go_simp; done) | (go_simp; with_reducible rfl))
          try simp only [Act.put, List.setIfInBounds_toArray, List.set_cons_zero, List.set_cons_succ]
          refine wpAnyH_take (i := 7) (oi := { dst := some 44, op := Op.indexAddr 24 (Operand.tmp 42) (Operand.tmp 43), type := 0, pos := "law.go:114", after := #[{ on := 5, ground := Ground.data }, { on := 6, ground := Ground.data }], guard := none }) (v := ?vP7n5) rfl (by kernel_rfl) (by kernel_rfl) (by kernel_rfl) (fun _ _ _ h => h) (Or.inl ⟨by rfl, ?yP7n5⟩) (by assumption) ?rP7n5
          case yP7n5 => (intro w hSw; (try dsimp only at hSw); first | (go_simp; done) | (go_simp; with_reducible rfl))
          try simp only [Act.put, List.setIfInBounds_toArray, List.set_cons_zero, List.set_cons_succ]
          refine wpAnyH_take (i := 8) (oi := { dst := some 45, op := Op.load 30 (Operand.tmp 44), type := 30, pos := "law.go:114", after := #[{ on := 7, ground := Ground.data }], guard := none }) (v := ?vP8n6) rfl (by kernel_rfl) (by kernel_rfl) (by kernel_rfl) (fun _ _ _ h => h) (Or.inl ⟨by rfl, ?yP8n6⟩) (by assumption) ?rP8n6
          case yP8n6 => (intro w hSw; (try dsimp only at hSw); first | (go_simp; done) | (go_simp; with_reducible rfl))
          try simp only [Act.put, List.setIfInBounds_toArray, List.set_cons_zero, List.set_cons_succ]
          refine wpAnyH_ready (rs := [0, 9]) (by kernel_rfl) (by simp) (AllReadyH.cons (o := { dst := some 37, op := Op.buildSlice 24 0 #[], type := 24, pos := "law.go:114", after := #[], guard := none }) rfl (fun K hK => ?bPn7q0) (AllReadyH.cons (o := { dst := some 46, op := Op.buildSlice 24 1 #[(0, Operand.tmp 45)], type := 24, pos := "law.go:114", after := #[{ on := 8, ground := Ground.data }], guard := none }) rfl (fun K hK => ?bPn7q1) AllReadyH.nil))
          case bPn7q0 =>
            go_simp
            refine hK.out _ _ ?kPn7o0 (fun hHeld7 => ?_)
            case kPn7o0 => ((try dsimp only); exact HCl.out _ _ _ (by first | exact HPi.out | exact HPi.out.more (Below.refl _ _).drew | exact HPi.out.empty | exact HPi.out.lit _ _))
            clear hK K
            have HPn := hidK HPi.out.empty
            clear HPi
            have HPi := hidK HPn.out
            clear HPn
            try simp only [Act.put, List.setIfInBounds_toArray, List.set_cons_zero, List.set_cons_succ]
            refine wpAnyH_ready (rs := [2, 9]) (by kernel_rfl) (by simp) (AllReadyH.cons (o := { dst := some 39, op := Op.call { callee := Callee.builtin Builtin.append, args := #[Operand.tmp 37, Operand.tmp 38], argTypes := #[24, 24] }, type := 24, pos := "law.go:114", after := #[{ on := 0, ground := Ground.data }, { on := 1, ground := Ground.data }], guard := none }) rfl (fun K hK => ?bPn8q0) (AllReadyH.cons (o := { dst := some 46, op := Op.buildSlice 24 1 #[(0, Operand.tmp 45)], type := 24, pos := "law.go:114", after := #[{ on := 8, ground := Ground.data }], guard := none }) rfl (fun K hK => ?bPn8q1) AllReadyH.nil))
            case bPn8q0 =>
              refine step_pi _ rfl (.tmp 37) (.tmp 38) rfl ?hv1 ?hu1 HPi.out.swap HLn.out.2 ?_
              case hv1 => simp [Act.eval]
              case hu1 => simp [Act.eval]
              intro m1 Z1 hpi
              have HPn := hidK hpi.out
              clear hpi HPi
              have HPi := hidK HPn.out
              clear HPn
              refine hK.out _ _ ?kPn8o2 (fun hHeld8 => ?_)
              case kPn8o2 => ((try dsimp only); exact HCl.out _ _ _ (by first | exact HPi.out | exact HPi.out.more (Below.refl _ _).drew | exact HPi.out.empty | exact HPi.out.lit _ _))
              clear hK K
              try simp only [Act.put, List.setIfInBounds_toArray, List.set_cons_zero, List.set_cons_succ]
              refine wpAnyH_ready (rs := [4, 9]) (by kernel_rfl) (by simp) (AllReadyH.cons (o := { dst := some 41, op := Op.call { callee := Callee.builtin Builtin.append, args := #[Operand.tmp 39, Operand.tmp 40], argTypes := #[24, 24] }, type := 24, pos := "law.go:114", after := #[{ on := 2, ground := Ground.data }, { on := 3, ground := Ground.data }, { on := 2, ground := Ground.chain }], guard := none }) rfl (fun K hK => ?bPn9q0) (AllReadyH.cons (o := { dst := some 46, op := Op.buildSlice 24 1 #[(0, Operand.tmp 45)], type := 24, pos := "law.go:114", after := #[{ on := 8, ground := Ground.data }], guard := none }) rfl (fun K hK => ?bPn9q1) AllReadyH.nil))
              case bPn9q0 =>
                refine step_pi _ rfl (.tmp 39) (.tmp 40) rfl ?hv2 ?hu2 HPi.out.swap HLn.out.1 ?_
                case hv2 => simp [Act.eval]
                case hu2 => simp [Act.eval]
                intro m2 Z2 hpi
                have HPn := hidK hpi.out
                clear hpi HPi
                have HPi := hidK HPn.out
                clear HPn
                refine hK.out _ _ ?kPn9o4 (fun hHeld9 => ?_)
                case kPn9o4 => ((try dsimp only); exact HCl.out _ _ _ (by first | exact HPi.out | exact HPi.out.more (Below.refl _ _).drew | exact HPi.out.empty | exact HPi.out.lit _ _))
                clear hK K
                try simp only [Act.put, List.setIfInBounds_toArray, List.set_cons_zero, List.set_cons_succ]
                refine wpAnyH_ready (rs := [9]) (by kernel_rfl) (by simp) (AllReadyH.cons (o := { dst := some 46, op := Op.buildSlice 24 1 #[(0, Operand.tmp 45)], type := 24, pos := "law.go:114", after := #[{ on := 8, ground := Ground.data }], guard := none }) rfl (fun K hK => ?bPn10q0) AllReadyH.nil)
                go_simp
                refine hK.out _ _ ?kPn10o9 (fun hHeld10 => ?_)
                case kPn10o9 => ((try dsimp only); exact HCl.out _ _ _ (by first | exact HPi.out | exact HPi.out.more (Below.refl _ _).drew | exact HPi.out.empty | exact HPi.out.lit _ _))
                clear hK K
                have HPn := hidK (HPi.out.lit x y).last
                clear HPi
                have HPi := hidK HPn.out
                clear HPn
                try simp only [Act.put, List.setIfInBounds_toArray, List.set_cons_zero, List.set_cons_succ]
                refine wpAnyH_ready (rs := [10]) (by kernel_rfl) (by simp) (AllReadyH.cons (o := { dst := some 47, op := Op.call { callee := Callee.value (Operand.func 12), args := #[Operand.tmp 41, Operand.tmp 46], argTypes := #[24, 24] }, type := 4, pos := "law.go:114", after := #[{ on := 4, ground := Ground.data }, { on := 9, ground := Ground.data }, { on := 4, ground := Ground.chain }], guard := none }) rfl (fun K hK => ?bPn11q0) AllReadyH.nil)
                go_simp
                go_wp2_with (refine (HSm.out _ _ _ _ HPi.out (by simp) (by simp)).mono ?_; rintro e Y1 ⟨rfl, hb⟩; have HPn := hidK (HPi.out.more hb); clear hb HPi; have HPi := hidK HPn.out; clear HPn)
                refine hK.out _ _ ?kPn11o10 (fun hHeld11 => ?_)
                case kPn11o10 => ((try dsimp only); exact HCl.out _ _ _ (by first | exact HPi.out | exact HPi.out.more (Below.refl _ _).drew | exact HPi.out.empty | exact HPi.out.lit _ _))
                clear hK K
                try simp only [Act.put, List.setIfInBounds_toArray, List.set_cons_zero, List.set_cons_succ]
                refine wpAnyH_take (i := 11) (oi := { dst := some 48, op := Op.unOp UnOp.not 4 (Operand.tmp 47), type := 4, pos := "law.go:114", after := #[{ on := 10, ground := Ground.data }], guard := none }) (v := ?vP11n12) rfl (by kernel_rfl) (by kernel_rfl) (by kernel_rfl) (fun _ _ _ h => h) (Or.inl ⟨by rfl, ?yP11n12⟩) (by assumption) ?rP11n12
                case yP11n12 => (intro w hSw; (try dsimp only at hSw); first | (go_simp; done) | (go_simp; with_reducible rfl))
                try simp only [Act.put, List.setIfInBounds_toArray, List.set_cons_zero, List.set_cons_succ]
                refine wpAnyH_take (i := 12) (oi := { dst := some 49, op := Op.move (Operand.tmp 48), type := 4, pos := "law.go:114", after := #[{ on := 11, ground := Ground.data }, { on := 10, ground := Ground.chain }], guard := none }) (v := ?vP12n13) rfl (by kernel_rfl) (by kernel_rfl) (by kernel_rfl) (fun _ _ _ h => h) (Or.inl ⟨by rfl, ?yP12n13⟩) (by assumption) ?rP12n13
                case yP12n13 => (intro w hSw; (try dsimp only at hSw); first | (go_simp; done) | (go_simp; with_reducible rfl))
                try simp only [Act.put, List.setIfInBounds_toArray, List.set_cons_zero, List.set_cons_succ]
                refine wpAnyH_take (i := 13) (oi := { dst := some 50, op := Op.move (Operand.tmp 8), type := 22, pos := "law.go:114", after := #[{ on := 12, ground := Ground.guard }], guard := some (12, false) }) (v := ?vP13n14) rfl (by kernel_rfl) (by kernel_rfl) (by kernel_rfl) (fun _ _ _ h => h) (Or.inl ⟨by rfl, ?yP13n14⟩) (by assumption) ?rP13n14
                case yP13n14 => (intro w hSw; (try dsimp only at hSw); first | (go_simp; done) | (go_simp; with_reducible rfl))
                try simp only [Act.put, List.setIfInBounds_toArray, List.set_cons_zero, List.set_cons_succ]
                refine wpAnyH_ready (rs := [14]) (by kernel_rfl) (by simp) (AllReadyH.cons (o := { dst := some 51, op := Op.call { callee := Callee.value (Operand.func 11), args := #[Operand.tmp 50], argTypes := #[22] }, type := 9, pos := "law.go:114", after := #[{ on := 13, ground := Ground.data }, { on := 12, ground := Ground.chain }, { on := 12, ground := Ground.guard }], guard := some (12, false) }) rfl (fun K hK => ?bPn15q0) AllReadyH.nil)
                go_simp
                go_wp2_with (refine (HHe.out _ _ HPi.out).mono ?_; rintro e Y2 ⟨rfl, rfl⟩)
                refine hK.out _ _ ?kPn15o14 (fun hHeld15 => ?_)
                case kPn15o14 => ((try dsimp only); exact HCl.out _ _ _ (by first | exact HPi.out | exact HPi.out.more (Below.refl _ _).drew | exact HPi.out.empty | exact HPi.out.lit _ _))
                clear hK K
                try simp only [Act.put, List.setIfInBounds_toArray, List.set_cons_zero, List.set_cons_succ]
                refine wpAnyH_take (i := 15) (oi := { dst := some 52, op := Op.binOp BinOp.neq 9 (Operand.tmp 51) (Operand.const (Value.string { data := #[] })) 9, type := 4, pos := "law.go:114", after := #[{ on := 14, ground := Ground.data }, { on := 12, ground := Ground.guard }], guard := some (12, false) }) (v := ?vP15n16) rfl (by kernel_rfl) (by kernel_rfl) (by kernel_rfl) (fun _ _ _ h => h) (Or.inl ⟨by rfl, ?yP15n16⟩) (by assumption) ?rP15n16
                case yP15n16 => (intro w hSw; (try dsimp only at hSw); first | (go_simp; done) | (go_simp; with_reducible rfl))
                try simp only [Act.put, List.setIfInBounds_toArray, List.set_cons_zero, List.set_cons_succ]
                refine wpAnyH_take (i := 16) (oi := { dst := some 53, op := Op.pick (Operand.tmp 49) (Operand.const (Value.bool true)) (Operand.tmp 52), type := 4, pos := "law.go:114", after := #[{ on := 12, ground := Ground.data }, { on := 15, ground := Ground.data }], guard := none }) (v := ?vP16n17) rfl (by kernel_rfl) (by kernel_rfl) (by kernel_rfl) (fun _ _ _ h => h) (Or.inl ⟨by rfl, ?yP16n17⟩) (by assumption) ?rP16n17
                case yP16n17 => (intro w hSw; (try dsimp only at hSw); first | (go_simp; done) | (go_simp; with_reducible rfl))
                try simp only [Act.put, List.setIfInBounds_toArray, List.set_cons_zero, List.set_cons_succ]
                refine wpAnyH_done (by kernel_rfl) ?_ _
                go_wp2_with fail
                go_meet
                case rel => exact ⟨rfl, ⟨_, HPi.out⟩⟩
              case bPn9q1 =>
                go_simp
                refine hK.out _ _ ?kPn9o9 (fun hHeld9 => ?_)
                case kPn9o9 => ((try dsimp only); exact HCl.out _ _ _ (by first | exact HPi.out | exact HPi.out.more (Below.refl _ _).drew | exact HPi.out.empty | exact HPi.out.lit _ _))
                clear hK K
                have HPn := hidK (HPi.out.lit x y).last
                clear HPi
                have HPi := hidK HPn.out
                clear HPn
                try simp only [Act.put, List.setIfInBounds_toArray, List.set_cons_zero, List.set_cons_succ]
                refine wpAnyH_ready (rs := [4]) (by kernel_rfl) (by simp) (AllReadyH.cons (o := { dst := some 41, op := Op.call { callee := Callee.builtin Builtin.append, args := #[Operand.tmp 39, Operand.tmp 40], argTypes := #[24, 24] }, type := 24, pos := "law.go:114", after := #[{ on := 2, ground := Ground.data }, { on := 3, ground := Ground.data }, { on := 2, ground := Ground.chain }], guard := none }) rfl (fun K hK => ?bPn18q0) AllReadyH.nil)
                refine step_pi _ rfl (.tmp 39) (.tmp 40) rfl ?hv2 ?hu2 HPi.out.swap HLn.out.1 ?_
                case hv2 => simp [Act.eval]
                case hu2 => simp [Act.eval]
                intro m2 Z2 hpi
                have HPn := hidK hpi.out
                clear hpi HPi
                have HPi := hidK HPn.out
                clear HPn
                refine hK.out _ _ ?kPn18o4 (fun hHeld18 => ?_)
                case kPn18o4 => ((try dsimp only); exact HCl.out _ _ _ (by first | exact HPi.out | exact HPi.out.more (Below.refl _ _).drew | exact HPi.out.empty | exact HPi.out.lit _ _))
                clear hK K
                try simp only [Act.put, List.setIfInBounds_toArray, List.set_cons_zero, List.set_cons_succ]
                refine wpAnyH_ready (rs := [10]) (by kernel_rfl) (by simp) (AllReadyH.cons (o := { dst := some 47, op := Op.call { callee := Callee.value (Operand.func 12), args := #[Operand.tmp 41, Operand.tmp 46], argTypes := #[24, 24] }, type := 4, pos := "law.go:114", after := #[{ on := 4, ground := Ground.data }, { on := 9, ground := Ground.data }, { on := 4, ground := Ground.chain }], guard := none }) rfl (fun K hK => ?bPn19q0) AllReadyH.nil)
                go_simp
                go_wp2_with (refine (HSm.out _ _ _ _ HPi.out (by simp) (by simp)).mono ?_; rintro e Y1 ⟨rfl, hb⟩; have HPn := hidK (HPi.out.more hb); clear hb HPi; have HPi := hidK HPn.out; clear HPn)
                refine hK.out _ _ ?kPn19o10 (fun hHeld19 => ?_)
                case kPn19o10 => ((try dsimp only); exact HCl.out _ _ _ (by first | exact HPi.out | exact HPi.out.more (Below.refl _ _).drew | exact HPi.out.empty | exact HPi.out.lit _ _))
                clear hK K
                try simp only [Act.put, List.setIfInBounds_toArray, List.set_cons_zero, List.set_cons_succ]
                refine wpAnyH_take (i := 11) (oi := { dst := some 48, op := Op.unOp UnOp.not 4 (Operand.tmp 47), type := 4, pos := "law.go:114", after := #[{ on := 10, ground := Ground.data }], guard := none }) (v := ?vP11n20) rfl (by kernel_rfl) (by kernel_rfl) (by kernel_rfl) (fun _ _ _ h => h) (Or.inl ⟨by rfl, ?yP11n20⟩) (by assumption) ?rP11n20
                case yP11n20 => (intro w hSw; (try dsimp only at hSw); first | (go_simp; done) | (go_simp; with_reducible rfl))
                try simp only [Act.put, List.setIfInBounds_toArray, List.set_cons_zero, List.set_cons_succ]
                refine wpAnyH_take (i := 12) (oi := { dst := some 49, op := Op.move (Operand.tmp 48), type := 4, pos := "law.go:114", after := #[{ on := 11, ground := Ground.data }, { on := 10, ground := Ground.chain }], guard := none }) (v := ?vP12n21) rfl (by kernel_rfl) (by kernel_rfl) (by kernel_rfl) (fun _ _ _ h => h) (Or.inl ⟨by rfl, ?yP12n21⟩) (by assumption) ?rP12n21
                case yP12n21 => (intro w hSw; (try dsimp only at hSw); first | (go_simp; done) | (go_simp; with_reducible rfl))
                try simp only [Act.put, List.setIfInBounds_toArray, List.set_cons_zero, List.set_cons_succ]
                refine wpAnyH_take (i := 13) (oi := { dst := some 50, op := Op.move (Operand.tmp 8), type := 22, pos := "law.go:114", after := #[{ on := 12, ground := Ground.guard }], guard := some (12, false) }) (v := ?vP13n22) rfl (by kernel_rfl) (by kernel_rfl) (by kernel_rfl) (fun _ _ _ h => h) (Or.inl ⟨by rfl, ?yP13n22⟩) (by assumption) ?rP13n22
                case yP13n22 => (intro w hSw; (try dsimp only at hSw); first | (go_simp; done) | (go_simp; with_reducible rfl))
                try simp only [Act.put, List.setIfInBounds_toArray, List.set_cons_zero, List.set_cons_succ]
                refine wpAnyH_ready (rs := [14]) (by kernel_rfl) (by simp) (AllReadyH.cons (o := { dst := some 51, op := Op.call { callee := Callee.value (Operand.func 11), args := #[Operand.tmp 50], argTypes := #[22] }, type := 9, pos := "law.go:114", after := #[{ on := 13, ground := Ground.data }, { on := 12, ground := Ground.chain }, { on := 12, ground := Ground.guard }], guard := some (12, false) }) rfl (fun K hK => ?bPn23q0) AllReadyH.nil)
                go_simp
                go_wp2_with (refine (HHe.out _ _ HPi.out).mono ?_; rintro e Y2 ⟨rfl, rfl⟩)
                refine hK.out _ _ ?kPn23o14 (fun hHeld23 => ?_)
                case kPn23o14 => ((try dsimp only); exact HCl.out _ _ _ (by first | exact HPi.out | exact HPi.out.more (Below.refl _ _).drew | exact HPi.out.empty | exact HPi.out.lit _ _))
                clear hK K
                try simp only [Act.put, List.setIfInBounds_toArray, List.set_cons_zero, List.set_cons_succ]
                refine wpAnyH_take (i := 15) (oi := { dst := some 52, op := Op.binOp BinOp.neq 9 (Operand.tmp 51) (Operand.const (Value.string { data := #[] })) 9, type := 4, pos := "law.go:114", after := #[{ on := 14, ground := Ground.data }, { on := 12, ground := Ground.guard }], guard := some (12, false) }) (v := ?vP15n24) rfl (by kernel_rfl) (by kernel_rfl) (by kernel_rfl) (fun _ _ _ h => h) (Or.inl ⟨by rfl, ?yP15n24⟩) (by assumption) ?rP15n24
                case yP15n24 => (intro w hSw; (try dsimp only at hSw); first | (go_simp; done) | (go_simp; with_reducible rfl))
                try simp only [Act.put, List.setIfInBounds_toArray, List.set_cons_zero, List.set_cons_succ]
                refine wpAnyH_take (i := 16) (oi := { dst := some 53, op := Op.pick (Operand.tmp 49) (Operand.const (Value.bool true)) (Operand.tmp 52), type := 4, pos := "law.go:114", after := #[{ on := 12, ground := Ground.data }, { on := 15, ground := Ground.data }], guard := none }) (v := ?vP16n25) rfl (by kernel_rfl) (by kernel_rfl) (by kernel_rfl) (fun _ _ _ h => h) (Or.inl ⟨by rfl, ?yP16n25⟩) (by assumption) ?rP16n25
                case yP16n25 => (intro w hSw; (try dsimp only at hSw); first | (go_simp; done) | (go_simp; with_reducible rfl))
                try simp only [Act.put, List.setIfInBounds_toArray, List.set_cons_zero, List.set_cons_succ]
                refine wpAnyH_done (by kernel_rfl) ?_ _
                go_wp2_with fail
                go_meet
                case rel => exact ⟨rfl, ⟨_, HPi.out⟩⟩
            case bPn8q1 =>
              go_simp
              refine hK.out _ _ ?kPn8o9 (fun hHeld8 => ?_)
              case kPn8o9 => ((try dsimp only); exact HCl.out _ _ _ (by first | exact HPi.out | exact HPi.out.more (Below.refl _ _).drew | exact HPi.out.empty | exact HPi.out.lit _ _))
              clear hK K
              have HPn := hidK (HPi.out.lit x y).last
              clear HPi
              have HPi := hidK HPn.out
              clear HPn
              try simp only [Act.put, List.setIfInBounds_toArray, List.set_cons_zero, List.set_cons_succ]
              refine wpAnyH_ready (rs := [2]) (by kernel_rfl) (by simp) (AllReadyH.cons (o := { dst := some 39, op := Op.call { callee := Callee.builtin Builtin.append, args := #[Operand.tmp 37, Operand.tmp 38], argTypes := #[24, 24] }, type := 24, pos := "law.go:114", after := #[{ on := 0, ground := Ground.data }, { on := 1, ground := Ground.data }], guard := none }) rfl (fun K hK => ?bPn26q0) AllReadyH.nil)
              refine step_pi _ rfl (.tmp 37) (.tmp 38) rfl ?hv1 ?hu1 HPi.out.swap HLn.out.2 ?_
              case hv1 => simp [Act.eval]
              case hu1 => simp [Act.eval]
              intro m1 Z1 hpi
              have HPn := hidK hpi.out
              clear hpi HPi
              have HPi := hidK HPn.out
              clear HPn
              refine hK.out _ _ ?kPn26o2 (fun hHeld26 => ?_)
              case kPn26o2 => ((try dsimp only); exact HCl.out _ _ _ (by first | exact HPi.out | exact HPi.out.more (Below.refl _ _).drew | exact HPi.out.empty | exact HPi.out.lit _ _))
              clear hK K
              try simp only [Act.put, List.setIfInBounds_toArray, List.set_cons_zero, List.set_cons_succ]
              refine wpAnyH_ready (rs := [4]) (by kernel_rfl) (by simp) (AllReadyH.cons (o := { dst := some 41, op := Op.call { callee := Callee.builtin Builtin.append, args := #[Operand.tmp 39, Operand.tmp 40], argTypes := #[24, 24] }, type := 24, pos := "law.go:114", after := #[{ on := 2, ground := Ground.data }, { on := 3, ground := Ground.data }, { on := 2, ground := Ground.chain }], guard := none }) rfl (fun K hK => ?bPn27q0) AllReadyH.nil)
              refine step_pi _ rfl (.tmp 39) (.tmp 40) rfl ?hv2 ?hu2 HPi.out.swap HLn.out.1 ?_
              case hv2 => simp [Act.eval]
              case hu2 => simp [Act.eval]
              intro m2 Z2 hpi
              have HPn := hidK hpi.out
              clear hpi HPi
              have HPi := hidK HPn.out
              clear HPn
              refine hK.out _ _ ?kPn27o4 (fun hHeld27 => ?_)
              case kPn27o4 => ((try dsimp only); exact HCl.out _ _ _ (by first | exact HPi.out | exact HPi.out.more (Below.refl _ _).drew | exact HPi.out.empty | exact HPi.out.lit _ _))
              clear hK K
              try simp only [Act.put, List.setIfInBounds_toArray, List.set_cons_zero, List.set_cons_succ]
              refine wpAnyH_ready (rs := [10]) (by kernel_rfl) (by simp) (AllReadyH.cons (o := { dst := some 47, op := Op.call { callee := Callee.value (Operand.func 12), args := #[Operand.tmp 41, Operand.tmp 46], argTypes := #[24, 24] }, type := 4, pos := "law.go:114", after := #[{ on := 4, ground := Ground.data }, { on := 9, ground := Ground.data }, { on := 4, ground := Ground.chain }], guard := none }) rfl (fun K hK => ?bPn28q0) AllReadyH.nil)
              go_simp
              go_wp2_with (refine (HSm.out _ _ _ _ HPi.out (by simp) (by simp)).mono ?_; rintro e Y1 ⟨rfl, hb⟩; have HPn := hidK (HPi.out.more hb); clear hb HPi; have HPi := hidK HPn.out; clear HPn)
              refine hK.out _ _ ?kPn28o10 (fun hHeld28 => ?_)
              case kPn28o10 => ((try dsimp only); exact HCl.out _ _ _ (by first | exact HPi.out | exact HPi.out.more (Below.refl _ _).drew | exact HPi.out.empty | exact HPi.out.lit _ _))
              clear hK K
              try simp only [Act.put, List.setIfInBounds_toArray, List.set_cons_zero, List.set_cons_succ]
              refine wpAnyH_take (i := 11) (oi := { dst := some 48, op := Op.unOp UnOp.not 4 (Operand.tmp 47), type := 4, pos := "law.go:114", after := #[{ on := 10, ground := Ground.data }], guard := none }) (v := ?vP11n29) rfl (by kernel_rfl) (by kernel_rfl) (by kernel_rfl) (fun _ _ _ h => h) (Or.inl ⟨by rfl, ?yP11n29⟩) (by assumption) ?rP11n29
              case yP11n29 => (intro w hSw; (try dsimp only at hSw); first | (go_simp; done) | (go_simp; with_reducible rfl))
              try simp only [Act.put, List.setIfInBounds_toArray, List.set_cons_zero, List.set_cons_succ]
              refine wpAnyH_take (i := 12) (oi := { dst := some 49, op := Op.move (Operand.tmp 48), type := 4, pos := "law.go:114", after := #[{ on := 11, ground := Ground.data }, { on := 10, ground := Ground.chain }], guard := none }) (v := ?vP12n30) rfl (by kernel_rfl) (by kernel_rfl) (by kernel_rfl) (fun _ _ _ h => h) (Or.inl ⟨by rfl, ?yP12n30⟩) (by assumption) ?rP12n30
              case yP12n30 => (intro w hSw; (try dsimp only at hSw); first | (go_simp; done) | (go_simp; with_reducible rfl))
              try simp only [Act.put, List.setIfInBounds_toArray, List.set_cons_zero, List.set_cons_succ]
              refine wpAnyH_take (i := 13) (oi := { dst := some 50, op := Op.move (Operand.tmp 8), type := 22, pos := "law.go:114", after := #[{ on := 12, ground := Ground.guard }], guard := some (12, false) }) (v := ?vP13n31) rfl (by kernel_rfl) (by kernel_rfl) (by kernel_rfl) (fun _ _ _ h => h) (Or.inl ⟨by rfl, ?yP13n31⟩) (by assumption) ?rP13n31
              case yP13n31 => (intro w hSw; (try dsimp only at hSw); first | (go_simp; done) | (go_simp; with_reducible rfl))
              try simp only [Act.put, List.setIfInBounds_toArray, List.set_cons_zero, List.set_cons_succ]
              refine wpAnyH_ready (rs := [14]) (by kernel_rfl) (by simp) (AllReadyH.cons (o := { dst := some 51, op := Op.call { callee := Callee.value (Operand.func 11), args := #[Operand.tmp 50], argTypes := #[22] }, type := 9, pos := "law.go:114", after := #[{ on := 13, ground := Ground.data }, { on := 12, ground := Ground.chain }, { on := 12, ground := Ground.guard }], guard := some (12, false) }) rfl (fun K hK => ?bPn32q0) AllReadyH.nil)
              go_simp
              go_wp2_with (refine (HHe.out _ _ HPi.out).mono ?_; rintro e Y2 ⟨rfl, rfl⟩)
              refine hK.out _ _ ?kPn32o14 (fun hHeld32 => ?_)
              case kPn32o14 => ((try dsimp only); exact HCl.out _ _ _ (by first | exact HPi.out | exact HPi.out.more (Below.refl _ _).drew | exact HPi.out.empty | exact HPi.out.lit _ _))
              clear hK K
              try simp only [Act.put, List.setIfInBounds_toArray, List.set_cons_zero, List.set_cons_succ]
              refine wpAnyH_take (i := 15) (oi := { dst := some 52, op := Op.binOp BinOp.neq 9 (Operand.tmp 51) (Operand.const (Value.string { data := #[] })) 9, type := 4, pos := "law.go:114", after := #[{ on := 14, ground := Ground.data }, { on := 12, ground := Ground.guard }], guard := some (12, false) }) (v := ?vP15n33) rfl (by kernel_rfl) (by kernel_rfl) (by kernel_rfl) (fun _ _ _ h => h) (Or.inl ⟨by rfl, ?yP15n33⟩) (by assumption) ?rP15n33
              case yP15n33 => (intro w hSw; (try dsimp only at hSw); first | (go_simp; done) | (go_simp; with_reducible rfl))
              try simp only [Act.put, List.setIfInBounds_toArray, List.set_cons_zero, List.set_cons_succ]
              refine wpAnyH_take (i := 16) (oi := { dst := some 53, op := Op.pick (Operand.tmp 49) (Operand.const (Value.bool true)) (Operand.tmp 52), type := 4, pos := "law.go:114", after := #[{ on := 12, ground := Ground.data }, { on := 15, ground := Ground.data }], guard := none }) (v := ?vP16n34) rfl (by kernel_rfl) (by kernel_rfl) (by kernel_rfl) (fun _ _ _ h => h) (Or.inl ⟨by rfl, ?yP16n34⟩) (by assumption) ?rP16n34
              case yP16n34 => (intro w hSw; (try dsimp only at hSw); first | (go_simp; done) | (go_simp; with_reducible rfl))
              try simp only [Act.put, List.setIfInBounds_toArray, List.set_cons_zero, List.set_cons_succ]
              refine wpAnyH_done (by kernel_rfl) ?_ _
              go_wp2_with fail
              go_meet
              case rel => exact ⟨rfl, ⟨_, HPi.out⟩⟩
          case bPn7q1 =>
            go_simp
            refine hK.out _ _ ?kPn7o9 (fun hHeld7 => ?_)
            case kPn7o9 => ((try dsimp only); exact HCl.out _ _ _ (by first | exact HPi.out | exact HPi.out.more (Below.refl _ _).drew | exact HPi.out.empty | exact HPi.out.lit _ _))
            clear hK K
            have HPn := hidK (HPi.out.lit x y).last
            clear HPi
            have HPi := hidK HPn.out
            clear HPn
            try simp only [Act.put, List.setIfInBounds_toArray, List.set_cons_zero, List.set_cons_succ]
            refine wpAnyH_ready (rs := [0]) (by kernel_rfl) (by simp) (AllReadyH.cons (o := { dst := some 37, op := Op.buildSlice 24 0 #[], type := 24, pos := "law.go:114", after := #[], guard := none }) rfl (fun K hK => ?bPn35q0) AllReadyH.nil)
            go_simp
            refine hK.out _ _ ?kPn35o0 (fun hHeld35 => ?_)
            case kPn35o0 => ((try dsimp only); exact HCl.out _ _ _ (by first | exact HPi.out | exact HPi.out.more (Below.refl _ _).drew | exact HPi.out.empty | exact HPi.out.lit _ _))
            clear hK K
            have HPn := hidK HPi.out.empty
            clear HPi
            have HPi := hidK HPn.out
            clear HPn
            try simp only [Act.put, List.setIfInBounds_toArray, List.set_cons_zero, List.set_cons_succ]
            refine wpAnyH_ready (rs := [2]) (by kernel_rfl) (by simp) (AllReadyH.cons (o := { dst := some 39, op := Op.call { callee := Callee.builtin Builtin.append, args := #[Operand.tmp 37, Operand.tmp 38], argTypes := #[24, 24] }, type := 24, pos := "law.go:114", after := #[{ on := 0, ground := Ground.data }, { on := 1, ground := Ground.data }], guard := none }) rfl (fun K hK => ?bPn36q0) AllReadyH.nil)
            refine step_pi _ rfl (.tmp 37) (.tmp 38) rfl ?hv1 ?hu1 HPi.out.swap HLn.out.2 ?_
            case hv1 => simp [Act.eval]
            case hu1 => simp [Act.eval]
            intro m1 Z1 hpi
            have HPn := hidK hpi.out
            clear hpi HPi
            have HPi := hidK HPn.out
            clear HPn
            refine hK.out _ _ ?kPn36o2 (fun hHeld36 => ?_)
            case kPn36o2 => ((try dsimp only); exact HCl.out _ _ _ (by first | exact HPi.out | exact HPi.out.more (Below.refl _ _).drew | exact HPi.out.empty | exact HPi.out.lit _ _))
            clear hK K
            try simp only [Act.put, List.setIfInBounds_toArray, List.set_cons_zero, List.set_cons_succ]
            refine wpAnyH_ready (rs := [4]) (by kernel_rfl) (by simp) (AllReadyH.cons (o := { dst := some 41, op := Op.call { callee := Callee.builtin Builtin.append, args := #[Operand.tmp 39, Operand.tmp 40], argTypes := #[24, 24] }, type := 24, pos := "law.go:114", after := #[{ on := 2, ground := Ground.data }, { on := 3, ground := Ground.data }, { on := 2, ground := Ground.chain }], guard := none }) rfl (fun K hK => ?bPn37q0) AllReadyH.nil)
            refine step_pi _ rfl (.tmp 39) (.tmp 40) rfl ?hv2 ?hu2 HPi.out.swap HLn.out.1 ?_
            case hv2 => simp [Act.eval]
            case hu2 => simp [Act.eval]
            intro m2 Z2 hpi
            have HPn := hidK hpi.out
            clear hpi HPi
            have HPi := hidK HPn.out
            clear HPn
            refine hK.out _ _ ?kPn37o4 (fun hHeld37 => ?_)
            case kPn37o4 => ((try dsimp only); exact HCl.out _ _ _ (by first | exact HPi.out | exact HPi.out.more (Below.refl _ _).drew | exact HPi.out.empty | exact HPi.out.lit _ _))
            clear hK K
            try simp only [Act.put, List.setIfInBounds_toArray, List.set_cons_zero, List.set_cons_succ]
            refine wpAnyH_ready (rs := [10]) (by kernel_rfl) (by simp) (AllReadyH.cons (o := { dst := some 47, op := Op.call { callee := Callee.value (Operand.func 12), args := #[Operand.tmp 41, Operand.tmp 46], argTypes := #[24, 24] }, type := 4, pos := "law.go:114", after := #[{ on := 4, ground := Ground.data }, { on := 9, ground := Ground.data }, { on := 4, ground := Ground.chain }], guard := none }) rfl (fun K hK => ?bPn38q0) AllReadyH.nil)
            go_simp
            go_wp2_with (refine (HSm.out _ _ _ _ HPi.out (by simp) (by simp)).mono ?_; rintro e Y1 ⟨rfl, hb⟩; have HPn := hidK (HPi.out.more hb); clear hb HPi; have HPi := hidK HPn.out; clear HPn)
            refine hK.out _ _ ?kPn38o10 (fun hHeld38 => ?_)
            case kPn38o10 => ((try dsimp only); exact HCl.out _ _ _ (by first | exact HPi.out | exact HPi.out.more (Below.refl _ _).drew | exact HPi.out.empty | exact HPi.out.lit _ _))
            clear hK K
            try simp only [Act.put, List.setIfInBounds_toArray, List.set_cons_zero, List.set_cons_succ]
            refine wpAnyH_take (i := 11) (oi := { dst := some 48, op := Op.unOp UnOp.not 4 (Operand.tmp 47), type := 4, pos := "law.go:114", after := #[{ on := 10, ground := Ground.data }], guard := none }) (v := ?vP11n39) rfl (by kernel_rfl) (by kernel_rfl) (by kernel_rfl) (fun _ _ _ h => h) (Or.inl ⟨by rfl, ?yP11n39⟩) (by assumption) ?rP11n39
            case yP11n39 => (intro w hSw; (try dsimp only at hSw); first | (go_simp; done) | (go_simp; with_reducible rfl))
            try simp only [Act.put, List.setIfInBounds_toArray, List.set_cons_zero, List.set_cons_succ]
            refine wpAnyH_take (i := 12) (oi := { dst := some 49, op := Op.move (Operand.tmp 48), type := 4, pos := "law.go:114", after := #[{ on := 11, ground := Ground.data }, { on := 10, ground := Ground.chain }], guard := none }) (v := ?vP12n40) rfl (by kernel_rfl) (by kernel_rfl) (by kernel_rfl) (fun _ _ _ h => h) (Or.inl ⟨by rfl, ?yP12n40⟩) (by assumption) ?rP12n40
            case yP12n40 => (intro w hSw; (try dsimp only at hSw); first | (go_simp; done) | (go_simp; with_reducible rfl))
            try simp only [Act.put, List.setIfInBounds_toArray, List.set_cons_zero, List.set_cons_succ]
            refine wpAnyH_take (i := 13) (oi := { dst := some 50, op := Op.move (Operand.tmp 8), type := 22, pos := "law.go:114", after := #[{ on := 12, ground := Ground.guard }], guard := some (12, false) }) (v := ?vP13n41) rfl (by kernel_rfl) (by kernel_rfl) (by kernel_rfl) (fun _ _ _ h => h) (Or.inl ⟨by rfl, ?yP13n41⟩) (by assumption) ?rP13n41
            case yP13n41 => (intro w hSw; (try dsimp only at hSw); first | (go_simp; done) | (go_simp; with_reducible rfl))
            try simp only [Act.put, List.setIfInBounds_toArray, List.set_cons_zero, List.set_cons_succ]
            refine wpAnyH_ready (rs := [14]) (by kernel_rfl) (by simp) (AllReadyH.cons (o := { dst := some 51, op := Op.call { callee := Callee.value (Operand.func 11), args := #[Operand.tmp 50], argTypes := #[22] }, type := 9, pos := "law.go:114", after := #[{ on := 13, ground := Ground.data }, { on := 12, ground := Ground.chain }, { on := 12, ground := Ground.guard }], guard := some (12, false) }) rfl (fun K hK => ?bPn42q0) AllReadyH.nil)
            go_simp
            go_wp2_with (refine (HHe.out _ _ HPi.out).mono ?_; rintro e Y2 ⟨rfl, rfl⟩)
            refine hK.out _ _ ?kPn42o14 (fun hHeld42 => ?_)
            case kPn42o14 => ((try dsimp only); exact HCl.out _ _ _ (by first | exact HPi.out | exact HPi.out.more (Below.refl _ _).drew | exact HPi.out.empty | exact HPi.out.lit _ _))
            clear hK K
            try simp only [Act.put, List.setIfInBounds_toArray, List.set_cons_zero, List.set_cons_succ]
            refine wpAnyH_take (i := 15) (oi := { dst := some 52, op := Op.binOp BinOp.neq 9 (Operand.tmp 51) (Operand.const (Value.string { data := #[] })) 9, type := 4, pos := "law.go:114", after := #[{ on := 14, ground := Ground.data }, { on := 12, ground := Ground.guard }], guard := some (12, false) }) (v := ?vP15n43) rfl (by kernel_rfl) (by kernel_rfl) (by kernel_rfl) (fun _ _ _ h => h) (Or.inl ⟨by rfl, ?yP15n43⟩) (by assumption) ?rP15n43
            case yP15n43 => (intro w hSw; (try dsimp only at hSw); first | (go_simp; done) | (go_simp; with_reducible rfl))
            try simp only [Act.put, List.setIfInBounds_toArray, List.set_cons_zero, List.set_cons_succ]
            refine wpAnyH_take (i := 16) (oi := { dst := some 53, op := Op.pick (Operand.tmp 49) (Operand.const (Value.bool true)) (Operand.tmp 52), type := 4, pos := "law.go:114", after := #[{ on := 12, ground := Ground.data }, { on := 15, ground := Ground.data }], guard := none }) (v := ?vP16n44) rfl (by kernel_rfl) (by kernel_rfl) (by kernel_rfl) (fun _ _ _ h => h) (Or.inl ⟨by rfl, ?yP16n44⟩) (by assumption) ?rP16n44
            case yP16n44 => (intro w hSw; (try dsimp only at hSw); first | (go_simp; done) | (go_simp; with_reducible rfl))
            try simp only [Act.put, List.setIfInBounds_toArray, List.set_cons_zero, List.set_cons_succ]
            refine wpAnyH_done (by kernel_rfl) ?_ _
            go_wp2_with fail
            go_meet
            case rel => exact ⟨rfl, ⟨_, HPi.out⟩⟩
        case rest =>
          obtain ⟨rfl, HPx⟩ := hcut
          clear HPi
          obtain ⟨eb, heb⟩ : ∃ eb, excB x y = eb := ⟨_, rfl⟩
          have HEb := hidK heb
          clear heb
          obtain ⟨e1, e2⟩ : wc.cell? ⟨g, o + k * 2, none⟩ = some (.int .i64 x) ∧ wc.cell? ⟨g, o + k * 2 + 1, none⟩ = some (.int .i64 y) := by obtain ⟨L, h⟩ := HPx.out; exact HCl.out _ _ _ h
          go_upto_region 14 with fail
          go_cut [75] (fun v X => v = .bool (!eb) ∧ wc = X)
          case first =>
            have HEy := hidK HEx.out
            rcases HEy.out with ⟨rfl, rfl⟩ | ⟨rfl, rfl⟩ | ⟨rfl, rfl⟩ | ⟨rfl, rfl⟩ | ⟨rfl, rfl⟩ | ⟨rfl, rfl⟩ | ⟨q1, q2, q3⟩
            · go_wp2_with fail
              go_meet
              case rel => exact ⟨by rw [← HEb.out]; rfl, rfl⟩
            · go_wp2_with fail
              go_meet
              case rel => exact ⟨by rw [← HEb.out]; rfl, rfl⟩
            · go_wp2_with fail
              go_meet
              case rel => exact ⟨by rw [← HEb.out]; rfl, rfl⟩
            · go_wp2_with fail
              go_meet
              case rel => exact ⟨by rw [← HEb.out]; rfl, rfl⟩
            · go_wp2_with fail
              go_meet
              case rel => exact ⟨by rw [← HEb.out]; rfl, rfl⟩
            · go_wp2_with fail
              go_meet
              case rel => exact ⟨by rw [← HEb.out]; rfl, rfl⟩
            · have heb : eb = false := by rw [← HEb.out]; simp [excB, q1, q2, q3]
              subst heb
              have r1 : (x == 27) = false := by simpa using q1
              have r2 : (x == 91) = false := by simpa using q2
              have r3 : (x == 79) = false := by simpa using q3
              go_wp2_with fail
              go_meet
              case rel => exact ⟨by first | rfl | simp [r1, r2, r3, q1, q2, q3], rfl⟩
          case rest =>
            obtain ⟨rfl, rfl⟩ := hcut
            obtain ⟨L, hpx⟩ := HPx.out
            have HPy := hidK hpx
            have HUx := hidK (HUn.out _ _ _ hpx)
            clear hpx
            cases eb with
            | true =>
              have HNx := hidK (txt_not app (l.take k) (x, y) (by rw [HGo.out, HEb.out]; rfl))
              have HRn : Hid (str (txtF app (l.take (k + 1))) = T ∧ (wantF (l.take (k + 1))).length = wn ∧ Below w.heap.size w wc ∧ KeysAt wc w.heap.size (.slice wa wn wc0) (wantF (l.take (k + 1)))) := by
                rw [HTk.out, HNx.out.1, HNx.out.2]
                exact ⟨HR.out.1, HR.out.2.1, HUx.out.1, HUx.out.2⟩
              go_wp2_with fail
              go_roundw
              case rel => exact ⟨k + 1, T, wn, wa, wc0, by omega, by first | rfl | go_num, rfl, rfl, HRn⟩
              case measure => simp [intOf]; omega
            | false =>
              have hgo : goodB (x, y) = true := by rw [HGo.out, HEb.out]; rfl
              have HTx : Hid (str (txtF app (l.take (k + 1))) = T ++ Bs) := by show _ = _; rw [HTk.out, txt_add app _ _ hgo, ← str_catK, HR.out.1, HBs.out]
              have HWx : Hid (wantF (l.take (k + 1)) = wantF (l.take k) ++ [(x, y)]) := by show _ = _; rw [HTk.out, want_add, if_pos hgo]
              have HBz := hidK (HBy.out _ _ _ HPy.out)
              have zz : T.size + Bs.size ≤ 9000000 := by
                have h1 : T.size = (txtF app (l.take k)).length := by rw [← HR.out.1]; rfl
                have h2 : Bs.size = (bytesF x y app).length := by rw [← HBs.out]; rfl
                have h3 := txt_len app (l.take k)
                have h4 := HTo.out.2.2
                rw [List.length_take] at h3
                omega
              have z1 : (T ++ Bs).size = T.size + Bs.size := ByteArray.size_append
              have z2 : T.size + Bs.size ≤ 140737488355328 := by omega
              have z3 : (T ++ Bs).size ≤ 140737488355328 := by rw [z1]; exact z2
              have z4 : ¬ 140737488355328 < T.size + Bs.size := by omega
              clear hgo
              go_wp2_with fail
              refine HBz.out.mono ?_
              rintro e w5 ⟨rfl, hb5⟩
              have hB5 := below_step HUx.out.1 hb5
              have hbA : Below w5.heap.size w5 (w5.alloc (.cells #[.int .i64 x, .int .i64 y] 30)) := (Below.refl _ _).alloc (Nat.le_refl _) _
              have HKe := hidK ((HUx.out.2.below hb5).below hbA)
              have HBe := hidK (below_step hB5 hbA)
              obtain ⟨e3, e4⟩ := HCw.out _ hB5
              have HWl : Hid ((wantF (l.take k)).length ≤ 20000000) := by
                have h := want_len (l.take k)
                rw [List.length_take] at h
                show _ ≤ _
                omega
              clear hb5 hB5 hbA e1 e2
              go_wp2_with (at_builtin; refine wpList_append_key _ rfl (.tmp 84) (.tmp 89) rfl w.heap.size _ (wantF (l.take k)) rfl HKe.out w5.heap.size (x, y) rfl (heap_alloc_new w5 _) HWl.out HBe.out.size ?_; intro tv' w6 hk6 hg6; have HRn := hidK (And.intro hk6 (grown_below HBe.out HKe.out hg6)); clear hk6 hg6)
              obtain ⟨ta, tc, htv⟩ := HRn.out.1.slice
              subst htv
              have HRm : Hid (str (txtF app (l.take (k + 1))) = T ++ Bs ∧ (wantF (l.take (k + 1))).length = (wantF (l.take k) ++ [(x, y)]).length ∧ Below w.heap.size w w6 ∧ KeysAt w6 w.heap.size (.slice ta (wantF (l.take k) ++ [(x, y)]).length tc) (wantF (l.take (k + 1)))) := by
                rw [HWx.out]
                exact ⟨HTx.out, rfl, HRn.out.2, HRn.out.1⟩
              go_roundw
              case rel => exact ⟨k + 1, T ++ Bs, _, ta, tc, by omega, by first | rfl | go_num, rfl, rfl, HRm⟩
              case measure => simp [intOf]; omega
    · have hk8 : k = n := by omega
      have ht : l.take k = l := List.take_of_length_le (by rw [HN.out, hk8]; exact Nat.le_refl _)
      rw [ht] at HR
      have hi1 : ¬ (k : Int) < (n : Int) := by omega
      have hT1 := HTw.out _ HR.out.2.2.1
      obtain ⟨W1, hW1⟩ : ∃ W1, wr.alloc (.cells #[.slice none 0 0] 54) = W1 := ⟨_, rfl⟩
      obtain ⟨d, hd⟩ : ∃ d, wr.heap.size = d := ⟨_, rfl⟩
      have hpi := Pi.new hT1
      rw [hW1, hd] at hpi
      have HNw := hidK (new_any wr)
      rw [hW1, hd] at HNw
      have hbW : Below wr.heap.size wr W1 := by rw [← hW1]; exact (Below.refl _ _).alloc (Nat.le_refl _) _
      have hdW : W1.heap[d]? = some (.cells #[.slice none 0 0] 54 (0, 0)) := by rw [← hW1, ← hd]; exact heap_alloc_new wr _
      have hBW := below_step HR.out.2.2.1 hbW
      have hTW := HTw.out _ hBW
      have hwd : w.heap.size ≤ d := by rw [← hd]; exact HR.out.2.2.1.size
      have hKW := HR.out.2.2.2.below hbW
      have hwl := want_len l
      have HFe : Hid (Calls Tryd.prog 10 #[.pointer (some ⟨d, 0, none⟩), .string T] W1 fun r X' => ∃ a c, r = .returned (.slice a wn c) ∧ Pi W1 X' d [] [(.slice a wn c, wantF l)]) := by
        have h := feed_pi hpi hTW (by simp) (txtF app l) (by have := txt_len app l; rw [HN.out] at this; omega)
        rw [txt_told, HR.out.1, HR.out.2.1] at h
        exact h
      have HSm : Hid (∀ X v, Pi W1 X d [] [(v, wantF l)] → Calls Tryd.prog 12 #[v, .slice wa wn wc0] X fun r w' => r = .returned (.bool true) ∧ Below X.heap.size X w') := fun X v hp => by
        have h := same_any (hp.rows _ List.mem_cons_self).seeK (hp.old hKW hdW).see (by simp; rw [HN.out] at hwl; omega) (by rw [HN.out] at hwl; omega)
        rw [decide_eq_true rfl] at h
        exact h
      have HHe : Hid (∀ X L, Pi W1 X d [] L → Calls Tryd.prog 11 #[.pointer (some ⟨d, 0, none⟩)] X fun r w' => r = .returned (.string ⟨#[]⟩) ∧ X = w') := fun X L hp => by
        obtain ⟨v, hd⟩ := hp.dc
        exact held_any hd
      have HSu : Hid (∀ X L, Pi W1 X d [] L → Calls Tryd.prog 14 #[] X fun r w' => r = .returned (.bool true) ∧ Below X.heap.size X w') := fun X L hp => sure_any (hp.tabs hTW)
      have HUn : Hid (∀ X L, Pi W1 X d [] L → Below w.heap.size w X) := fun X L hp => hp.under hwd hBW
      clear hT1 hpi hbW hdW hBW hTW hwd hKW hwl ht
      go_wp2_with fail
      refine HNw.out.mono ?_
      rintro e X0 ⟨rfl, rfl⟩
      go_wp2_with fail
      refine HFe.out.mono ?_
      rintro e w3 ⟨aa, ca, rfl, hp3⟩
      have HPi := hidK hp3
      clear hp3
      go_wp2_with fail
      refine (HSm.out _ _ HPi.out).mono ?_
      rintro e w4 ⟨rfl, hb4⟩
      have HPj := hidK (HPi.out.more hb4)
      clear hb4 HPi
      go_wp2_with fail
      refine (HHe.out _ _ HPj.out).mono ?_
      rintro e w5 ⟨rfl, rfl⟩
      go_wp2_with fail
      refine (HSu.out _ _ HPj.out).mono ?_
      rintro e w6 ⟨rfl, hb6⟩
      have HBn := hidK (below_step (HUn.out _ _ HPj.out) hb6)
      clear hb6
      go_wp2_with fail
      go_ret
      exact ⟨rfl, HBn.out⟩
end Go.Proofs.YtghepjjfdaecgaaDoor
