/-
  Lines of commands: the document's Commands.
-/
import Derived.Test.YtghkhnnlhkdceaaXRefC
import Derived.Test.YtghkhnnlhkdceaaXBlankP
namespace Go.Proofs.Ytghkhnnlhkdceaa
open Go.RowKit
set_option linter.unusedVariables false
set_option maxRecDepth 100000

theorem wpList_append_one {ops : Array Oper} {rest : List Oper} {o : Oper} {a : Act} {Q : Exit → Act → World → Prop} (w : World) (hgd : o.guard = none) (s x : Operand) (t e : TypeId)
    (ho : o.op = .call { callee := .builtin .append, args := #[s, x], argTypes := #[t, t] }) (z : Value) (bytes : Nat) (ht : Try.prog.underlying t = some (.slice e)) (hinfo : (Try.prog.info? e).map (fun i => (i.zero, i.size, i.bytes)) = some (some z, 1, bytes)) (hzs : z.cells.size = 1) (hby : bytes ≤ 24)
    (B : Nat) (v : Value) (k : Nat) (xs : List Value) (u : Value) (hu : u.oneCell' = true) (hs : a.eval s = v) (hown : w.ownsRow B e 1 v k xs) (hx : a.eval x = .slice (some ⟨w.heap.size, 0, none⟩) 1 1) (hlen : k ≤ 16777216) (hB : B ≤ w.heap.size)
    (h : ∀ v' w', w'.ownsRow B e 1 v' (k + 1) (xs ++ [u]) → (w.alloc (.cells #[u] e)).grownBy w' v.ownBlock → wpList Try.prog ops Q rest (a.put o.dst v') w') : wpList Try.prog ops Q (o :: rest) a (w.alloc (.cells #[u] e)) := by
  obtain ⟨i0, hi, hz0, hz1, hz2⟩ := info_parts hinfo
  have hown' : (w.alloc (.cells #[u] e)).ownsRow B e 1 v k xs := World.ownsRow.alloc hown _
  refine wpList_append_own (w.alloc (.cells #[u] e)) hgd s x t ho B e i0 z 1 bytes ht hi hz0 hz1 hz2 hzs (by decide) v k xs hs hown' ⟨w.heap.size, 0, none⟩ 1 1 [u] hx rfl ?_ ?_ ?_ ?_ ?_ ?_
  · intro j y hy
    rw [show (⟨w.heap.size, 0, none⟩ : Addr).add j = ⟨w.heap.size, j, none⟩ by unfold Addr.add; split <;> simp_all, World.cell?_alloc_mark]
    simpa using hy
  · intro y hy
    have : y = u := by simpa using hy
    rw [this]; exact hu
  · unfold maxLen; omega
  · exact Nat.le_trans (Nat.mul_le_mul (show k + 1 ≤ 16777217 by omega) hby) (by decide)
  · have : (w.alloc (.cells #[u] e)).heap.size = w.heap.size + 1 := by simp
    omega
  · intro v' w' h2 h3 _
    exact h v' w' h2 h3

/-- What the document's Commands holds. -/
structure Hd (w0 w : World) (cmd : List (List UInt8)) (cmds : List (List (List UInt8))) (vc vcs : Value) (vs : List Value) (Bc : Nat) : Prop where
  cmd : StrRow w Bc vc cmd
  lo : w0.heap.size ≤ Bc
  hi : Bc ≤ w.heap.size
  row : w.ownsRow w0.heap.size 29 1 vcs cmds.length vs
  rows : Rows2 w w0.heap.size vs cmds Bc
  below : Below w0.heap.size w0 w
theorem Hd.under {w0 w w' : World} {cmd : List (List UInt8)} {cmds : List (List (List UInt8))} {vc vcs : Value} {vs : List Value} {Bc : Nat} (h : Hd w0 w cmd cmds vc vcs vs Bc) (hb : Below w.heap.size w w') : Hd w0 w' cmd cmds vc vcs vs Bc :=
  ⟨h.cmd.keep fun g cur _ hg => hb.block g (lt_block hg), h.lo, Nat.le_trans h.hi hb.size, row24_keep h.row fun g cur _ hg => hb.block g (lt_block hg), h.rows.keep fun g cur _ hg => hb.block g (lt_block hg), h.below.trans (hb.mono h.below.size)⟩
theorem Hd.empty {w0 w : World} {cmd : List (List UInt8)} {cmds : List (List (List UInt8))} {vc vcs : Value} {vs : List Value} {Bc : Nat} (h : Hd w0 w cmd cmds vc vcs vs Bc) : Hd w0 w [] cmds (.slice none 0 0) vcs vs Bc := ⟨World.ownsRow_nil _ _ _ _, h.lo, h.hi, h.row, h.rows, h.below⟩
theorem Hd.word {w0 w1 w2 : World} {cmd : List (List UInt8)} {cmds : List (List (List UInt8))} {vc vcs v2 : Value} {vs : List Value} {Bc : Nat} {l : List UInt8} (h : Hd w0 w1 cmd cmds vc vcs vs Bc) (ho : w2.ownsRow Bc 9 1 v2 (cmd.length + 1) (cmd.map strV ++ [strV l])) (hg : (w1.alloc (.cells #[strV l] 9)).grownBy w2 vc.ownBlock) :
    Hd w0 w2 (cmd ++ [l]) cmds v2 vcs vs Bc := by
  have hB : But vc.ownBlock.toList w1 w2 := But.grown ((But.refl _ w1).alloc _) hg fun k hk => .inl (by rw [hk]; simp)
  have hty : ∀ g, vc.ownBlock = some g → ∃ cur, w1.heap[g]? = some (Obj.cells cur 9 (0, 0)) := fun g hg => by
    rcases h.cmd.2 with ⟨e, _⟩ | ⟨g', cap, cur, e, _, hg', _⟩
    · rw [e] at hg; cases hg
    · rw [e] at hg
      cases hg
      exact ⟨cur, hg'⟩
  have hne : ∀ g cs' t, w1.heap[g]? = some (Obj.cells cs' t (0, 0)) → t ≠ 9 → w2.heap[g]? = w1.heap[g]? := fun g cs' t h1 h2 => hB.block g (lt_block h1) fun hm => by
    obtain ⟨cur, hc⟩ := hty g (by simpa using hm)
    exact h2 (same_ty h1 hc)
  refine ⟨?_, h.lo, Nat.le_trans h.hi hB.size, row24_keep h.row fun g cur _ hg2 => hne g cur _ hg2 (by decide), h.rows.keep fun g cur hlt hg2 => hB.block g (lt_block hg2) fun hm => ?_, hB.under h.below h.below.size fun k hk => ?_⟩
  · show w2.ownsRow Bc 9 1 v2 (cmd ++ [l]).length ((cmd ++ [l]).map strV)
    rw [List.length_append, List.map_append]
    exact ho
  · have h1 : vc.ownBlock = some g := by simpa using hm
    have := (World.ownsRow.lt h.cmd g h1).1
    omega
  · have h1 : vc.ownBlock = some k := by simpa using hk
    have := (World.ownsRow.lt h.cmd k h1).1
    have := h.lo
    omega
theorem Hd.command {w0 w1 w2 : World} {cmd : List (List UInt8)} {cmds : List (List (List UInt8))} {vc vcs v2 : Value} {vs : List Value} {Bc : Nat} (h : Hd w0 w1 cmd cmds vc vcs vs Bc) (ho : w2.ownsRow w0.heap.size 29 1 v2 (cmds.length + 1) (vs ++ [vc])) (hg : (w1.alloc (.cells #[vc] 29)).grownBy w2 vcs.ownBlock) :
    Hd w0 w2 [] (cmds ++ [cmd]) (.slice none 0 0) v2 (vs ++ [vc]) w2.heap.size := by
  have hB : But vcs.ownBlock.toList w1 w2 := But.grown ((But.refl _ w1).alloc _) hg fun k hk => .inl (by rw [hk]; simp)
  have hty : ∀ g, vcs.ownBlock = some g → ∃ cur, w1.heap[g]? = some (Obj.cells cur 29 (0, 0)) := fun g hg => by
    rcases h.row.2 with ⟨e, _⟩ | ⟨g', cap, cur, e, _, hg', _⟩
    · rw [e] at hg; cases hg
    · rw [e] at hg
      cases hg
      exact ⟨cur, hg'⟩
  have hne : ∀ g cs' t, w1.heap[g]? = some (Obj.cells cs' t (0, 0)) → t ≠ 29 → w2.heap[g]? = w1.heap[g]? := fun g cs' t h1 h2 => hB.block g (lt_block h1) fun hm => by
    obtain ⟨cur, hc⟩ := hty g (by simpa using hm)
    exact h2 (same_ty h1 hc)
  have hbel : Below w0.heap.size w0 w2 := hB.under h.below h.below.size fun k hk => (World.ownsRow.lt h.row k (by simpa using hk)).1
  refine ⟨World.ownsRow_nil _ _ _ _, hbel.size, Nat.le_refl _, ?_, ?_, hbel⟩
  · rw [List.length_append]
    exact ho
  · refine .snoc vs cmds Bc _ vc cmd (h.rows.keep fun g cur _ hg2 => hne g cur _ hg2 (by decide)) (h.cmd.keep fun g cur _ hg2 => hne g cur _ hg2 (by decide)) (fun g hg2 => ?_) (Nat.le_trans h.hi hB.size)
    exact Nat.lt_of_lt_of_le (h.cmd.lt g hg2) hB.size
theorem Hd.made {w0 w : World} {cmd : List (List UInt8)} {cmds : List (List (List UInt8))} {vc vcs : Value} {vs : List Value} {Bc : Nat} (h : Hd w0 w cmd cmds vc vcs vs Bc) : CmdsAt w w0.heap.size vcs cmds := ⟨vs, h.row, h.rows.up h.hi⟩
theorem row_slice {w : World} {B : Nat} {e : TypeId} {v : Value} {n : Nat} {xs : List Value} (h : w.ownsRow B e 1 v n xs) : ∃ a c, v = .slice a n c := by
  rcases h.2 with ⟨e, h0⟩ | ⟨g', cap, cur, e, _⟩
  · exact ⟨none, 0, by rw [e, h0]⟩
  · exact ⟨_, _, e⟩

def finC (n : Nat) (R : Sum (List UInt8) (List (List (List UInt8)))) : List (List (List UInt8)) × Nat × Nat := match R with
  | .inl f => ([], n - f.length, 90)
  | .inr cs => if 16 < cs.length ∨ 64 < wcount cs then ([], 0, 91) else (cs, 0, 0)
theorem cmds_fin (L : List UInt8) (h : L.length ≤ 8192) : cmdsF L = finC L.length (lineF L [] []) := by
  unfold cmdsF finC
  rw [if_neg (by omega)]
  cases lineF L [] [] <;> rfl

set_option maxHeartbeats 16000000 in
theorem commandsR_any (s : ByteArray) (w : World) (hsz : s.size ≤ 140737488355328) : Calls Try.prog 4 #[.string s] w (CmdA w (cmdsF s.data.toList)) := by
  have hsl : s.data.toList.length = s.size := size_data s
  by_cases h8 : 8192 < s.size
  · have HR : Hid (cmdsF s.data.toList = ([], 0, 2)) := by show _ = _; unfold cmdsF; rw [if_pos (by rw [hsl]; exact h8)]
    rw [HR.out]
    have d8 : decide ((8192 : Int) < (s.size : Int)) = true := decide_eq_true (by omega)
    clear hsl
    go_enter Try.func4, Try.ntmps4
    go_wp2
    exact bodyPost_ret (v := .tuple #[.slice none 0 0, .int .i64 0, .int .i64 2]) (by simp [results, Try.results4, go_sem]) rfl ⟨_, rfl, cmdsAt_nil _ _ (Nat.le_refl _), Below.refl _ _⟩
  · have d8 : decide ((8192 : Int) < (s.size : Int)) = false := decide_eq_false (by omega)
    have hs8 : s.size ≤ 8192 := by omega
    have hfin := cmds_fin s.data.toList (by omega)
    rw [hsl] at hfin
    obtain ⟨R, hR⟩ : ∃ R, lineF s.data.toList [] [] = R := ⟨_, rfl⟩
    obtain ⟨RR, hRR⟩ : ∃ R, cmdsF s.data.toList = R := ⟨_, rfl⟩
    rw [hRR]
    have HRR0 : Hid (finC s.size R = RR) := by
      rw [hRR, hR] at hfin
      exact hfin.symm
    have HR0 : Hid (lineF (s.data.toList.drop 0) [] [] = R) := by rw [List.drop_zero]; exact hR
    clear hfin hR hRR hsl
    go_enter Try.func4, Try.ntmps4
    go_wp2
    go_loopw [5, 6, 7, 8] (fun all now nv i wr => ∃ (q : Nat) (cmd : List (List UInt8)) (cmds : List (List (List UInt8))) (n : Nat) (vs : List Value) (Bc : Nat), q ≤ s.size ∧ i = .int .i64 (q : Int) ∧ nv = .int .i64 (n : Int) ∧ n = wcount cmds + cmd.length ∧ n ≤ q ∧ cmds.length ≤ q ∧ Hid (Hd w wr cmd cmds now all vs Bc) ∧ Hid (lineF (s.data.toList.drop q) cmd cmds = R)) (fun _ _ _ i _ => s.size - (intOf i).toNat)
    case atStart => exact ⟨0, [], [], 0, [], w.heap.size, Nat.zero_le _, rfl, rfl, rfl, Nat.le_refl _, Nat.le_refl _, ⟨World.ownsRow_nil _ _ _ _, Nat.le_refl _, Nat.le_refl _, World.ownsRow_nil _ _ _ _, .nil _ (Nat.le_refl _), Below.refl _ _⟩, HR0⟩
    case round =>
      obtain ⟨q, cmd, cmds, n, vs, Bc, hqs, rfl, rfl, hn, hnq, hcq, H, HI⟩ := hrel
      have HWn : Hid (n = wcount cmds + cmd.length) := hn
      have hMn : cmd.length ≤ n := by omega
      obtain ⟨na, nk, hnow⟩ := row_slice H.out.cmd
      obtain ⟨ea, ek, hall⟩ := row_slice H.out.row
      subst hnow hall
      obtain ⟨M, hM⟩ : ∃ x, cmd.length = x := ⟨_, rfl⟩
      obtain ⟨NN, hNN⟩ : ∃ x, cmds.length = x := ⟨_, rfl⟩
      have HMl : Hid (cmd.length = M) := hM
      have HNN : Hid (cmds.length = NN) := hNN
      rw [hM] at H hMn ⊢
      rw [hNN] at H hcq ⊢
      have HRow : Hid (wr.ownsRow w.heap.size 29 1 (.slice ea NN ek) NN vs) := by
        have h := H.out.row
        rw [hNN] at h
        exact h
      clear HR0 hn hM hNN
      by_cases hlt : q < s.size
      · obtain ⟨c, hc⟩ : ∃ c, s[q] = c := ⟨_, rfl⟩
        obtain ⟨k, hk⟩ : ∃ k, c.toNat = k := ⟨_, rfl⟩
        have hsk : (s[q].toNat : Int) = (k : Int) := by rw [hc, hk]
        have HDr : Hid (s.data.toList.drop q = c :: s.data.toList.drop (q + 1)) := by rw [← hc]; exact drop_at s q hlt
        have HK : Hid (c.toNat = k) := hk
        obtain ⟨Q1, hQ1⟩ : ∃ x, q + 1 = x := ⟨_, rfl⟩
        have HQ1 : Hid (q + 1 = Q1) := hQ1
        have hwq : IntKind.i64.wrap ((q : Int) + 1) = (Q1 : Int) := by rw [IntKind.wrap_i64]; omega
        rw [hQ1] at HDr
        have HBl : Hid (∀ W, Calls Try.prog 8 #[.int .u8 (k : Int)] W fun e w' => e = .returned (.bool (blankB c)) ∧ W = w') := fun W => by
          have h := blankR_any c W
          rw [hk] at h
          exact h
        clear hc hk hQ1
        cases hB : blankB c with
        | true =>
          have HI2 : Hid (lineF (s.data.toList.drop Q1) cmd cmds = R) := by
            have h := HI.out
            rw [HDr.out, line_blank hB] at h
            exact h
          rw [hB] at HBl
          clear hB
          go_wp2_with fail
          refine (HBl.out _).mono ?_
          rintro e w' ⟨rfl, rfl⟩
          go_wp2
          go_roundw
          case rel => exact ⟨Q1, cmd, cmds, n, vs, Bc, by have := HQ1.out; omega, rfl, rfl, HWn.out, by have := HQ1.out; omega, by have := HQ1.out; have := HNN.out; omega, H, HI2⟩
          case measure => (have := HQ1.out; simp [intOf]; omega)
        | false =>
          rw [hB] at HBl
          by_cases k59 : k = 59
          · subst k59
            have HI2 : Hid (lineF (s.data.toList.drop Q1) [] (moreC cmd cmds) = R) := by
              have h := HI.out
              rw [HDr.out, line_semi HK.out] at h
              exact h
            clear hB
            by_cases hc0 : cmd = []
            · have HM : Hid (moreC cmd cmds = cmds) := by show _ = _; unfold moreC; rw [if_pos hc0]
              rw [HM.out] at HI2
              have HW : Hid (wcount cmds = n) := by
                have h := HWn.out
                rw [hc0] at h
                show _ = _
                simpa using h.symm
              have hl0 : M = 0 := by rw [← HMl.out, hc0]; rfl
              subst hl0
              clear hc0
              go_wp2_with fail
              refine (HBl.out _).mono ?_
              rintro e w' ⟨rfl, rfl⟩
              go_wp2
              go_roundw
              case rel => exact ⟨Q1, [], cmds, n, vs, Bc, by have := HQ1.out; omega, rfl, rfl, by rw [HW.out]; rfl, by have := HQ1.out; omega, by have := HQ1.out; have := HNN.out; omega, H.out.empty, HI2⟩
              case measure => (have := HQ1.out; simp [intOf]; omega)
            · have HM : Hid (moreC cmd cmds = cmds ++ [cmd]) := by show _ = _; unfold moreC; rw [if_neg hc0]
              rw [HM.out] at HI2
              have HW : Hid (wcount (cmds ++ [cmd]) = n) := by
                show _ = _
                rw [← HM.out, more_count, HWn.out]
              obtain ⟨N2, hN2⟩ : ∃ x, NN + 1 = x := ⟨_, rfl⟩
              have HNL : Hid ((cmds ++ [cmd]).length = N2) := by show _ = _; rw [List.length_append, HNN.out]; exact hN2
              have hl0 : 0 < M := by rw [← HMl.out]; exact List.length_pos_iff.2 hc0
              have dl : decide ((0 : Int) < (M : Int)) = true := decide_eq_true (by omega)
              have hlen : NN ≤ 16777216 := by omega
              clear hc0
              go_wp2_with fail
              refine (HBl.out _).mono ?_
              rintro e w' ⟨rfl, rfl⟩
              go_wp2_with (at_builtin; refine wpList_append_one wr rfl (.tmp 32) (.tmp 34) 22 29 rfl (.slice none 0 0) 24 Try.underlying22 infoSS rfl (by decide) w.heap.size (.slice ea NN ek) NN vs (.slice na M nk) rfl rfl HRow.out (by first | rfl | simp [Act.eval]) hlen H.out.below.size ?_; intro v2 w2 h2 h3; have h4 := H.out.command (by rw [HNN.out]; exact h2) h3; rw [hN2] at h2; obtain ⟨ea2, ek2, rfl⟩ := row_slice h2; have H2 : Hid (Hd w w2 [] (cmds ++ [cmd]) (.slice none 0 0) (.slice ea2 N2 ek2) (vs ++ [.slice na M nk]) w2.heap.size) := h4; clear h2 h3 h4)
              go_roundw
              case rel => exact ⟨Q1, [], cmds ++ [cmd], n, _, _, by have := HQ1.out; omega, rfl, rfl, by rw [HW.out]; rfl, by have := HQ1.out; omega, by have := HQ1.out; have := HNL.out; omega, H2, HI2⟩
              case measure => (have := HQ1.out; simp [intOf]; omega)
          · have e59 : ((k : Int) == 59) = false := by
              have : (k : Int) ≠ 59 := by omega
              simpa using this
            have hE : endB c = false := by unfold endB; rw [hB, HK.out, decide_eq_false k59]; rfl
            clear hB
            by_cases k35 : k = 35
            · subst k35
              by_cases hq1 : Q1 < s.size
              · obtain ⟨d, hd⟩ : ∃ d, s[Q1] = d := ⟨_, rfl⟩
                obtain ⟨m, hm⟩ : ∃ m, d.toNat = m := ⟨_, rfl⟩
                have hsm : (s[Q1].toNat : Int) = (m : Int) := by rw [hd, hm]
                have eq1 : ((Q1 : Int) == (s.size : Int)) = false := by
                  have : (Q1 : Int) ≠ (s.size : Int) := by omega
                  simpa using this
                have hremV : remB c (s.data.toList.drop Q1) = !decide (m = 123) := by
                  unfold remB
                  rw [HK.out, drop_at s Q1 hq1, hd]
                  show (true && !((some d : Option UInt8) == some 123)) = _
                  rw [Bool.true_and]
                  congr 1
                  by_cases h : m = 123
                  · have : d = 123 := UInt8.toNat_inj.1 (by rw [hm, h]; rfl)
                    rw [this, decide_eq_true h]
                    rfl
                  · have : d ≠ 123 := fun e => h (by rw [← hm, e]; rfl)
                    rw [decide_eq_false h]
                    simpa using this
                clear hd hm
                by_cases m123 : m = 123
                · subst m123
                  have hrem : remB c (s.data.toList.drop Q1) = false := by rw [hremV]; rfl
                  clear hremV
                  cases hw : wordF (s.data.toList.drop q) with
                  | inl f =>
                    have HF : Hid (RR = ([], s.size - f.length, 90)) := by
                      have h := HRR0.out
                      rw [← HI.out, HDr.out, line_word hE hrem] at h
                      unfold lineW at h
                      rw [ontoW_nil, ← HDr.out, hw] at h
                      exact h.symm
                    have HWd : Hid (∀ W, Calls Try.prog 9 #[.string s, .int .i64 (q : Int)] W (WordR W s q (.inl f))) := fun W => wordR_any s q W hqs hs8 _ hw
                    obtain ⟨pl, hpl⟩ : ∃ x, s.size - f.length = x := ⟨_, rfl⟩
                    clear hw hE hrem
                    go_wp2_with fail
                    refine (HBl.out _).mono ?_
                    rintro e w' ⟨rfl, rfl⟩
                    go_wp2_with fail
                    refine (HWd.out _).mono ?_
                    rintro e w1 ⟨rfl, hb1⟩
                    have HB1 : Hid (Below w.heap.size w w1) := H.out.below.trans (hb1.mono H.out.below.size)
                    rw [hpl] at HF ⊢
                    clear hb1 hpl
                    go_wp2
                    exact bodyPost_ret (v := .tuple #[.slice none 0 0, .int .i64 (pl : Int), .int .i64 90]) (by simp [results, Try.results4, go_sem]) rfl (by rw [HF.out]; exact ⟨_, rfl, cmdsAt_nil _ _ HB1.out.size, HB1.out⟩)
                  | inr z =>
                    obtain ⟨x, u⟩ := z
                    have HI2 : Hid (lineF u (cmd ++ [x]) cmds = R) := by
                      have h := HI.out
                      rw [HDr.out, line_word hE hrem] at h
                      unfold lineW at h
                      rw [ontoW_nil, ← HDr.out, hw] at h
                      exact h
                    have hsh : u.length < s.size - q := by
                      have h := hw
                      rw [HDr.out] at h
                      have h2 := word_short hE h
                      rw [← HDr.out, List.length_drop, size_data] at h2
                      exact h2
                    have HWd : Hid (∀ W, Calls Try.prog 9 #[.string s, .int .i64 (q : Int)] W (WordR W s q (.inr (x, u)))) := fun W => wordR_any s q W hqs hs8 _ hw
                    clear hw hE hrem
                    go_wp2_with fail
                    refine (HBl.out _).mono ?_
                    rintro e w' ⟨rfl, rfl⟩
                    go_wp2_with fail
                    refine (HWd.out _).mono ?_
                    rintro e w1 ⟨q1, rfl, hd1, hq1, hqq, hb1⟩
                    have HD1 : Hid (s.data.toList.drop q1 = u) := hd1
                    have hlt1 : q < q1 := by
                      rw [← hd1, List.length_drop, size_data] at hsh
                      omega
                    have H1 : Hid (Hd w w1 cmd cmds (.slice na M nk) (.slice ea NN ek) vs Bc) := H.out.under hb1
                    have HRw : Hid (w1.ownsRow Bc 9 1 (.slice na M nk) M (cmd.map strV)) := by
                      have h := H1.out.cmd
                      unfold StrRow at h
                      rw [HMl.out] at h
                      exact h
                    have dq : decide ((q1 : Int) < 0) = false := decide_eq_false (by omega)
                    have hwn : IntKind.i64.wrap ((n : Int) + 1) = ((n + 1 : Nat) : Int) := by rw [IntKind.wrap_i64]; omega
                    have hlen : M ≤ 16777216 := by omega
                    clear hb1 hd1 hsh
                    unfold strV
                    go_wp2_with (at_builtin; refine wpList_append_one w1 rfl (.tmp 66) (.tmp 68) 29 9 rfl (.string .empty) 16 Try.underlying29 infoS rfl (by decide) Bc (.slice na M nk) M (cmd.map strV) (.string (str x)) rfl rfl HRw.out (by first | rfl | simp [Act.eval]) hlen H1.out.hi ?_; intro v2 w2 h2 h3; have H2 : Hid (Hd w w2 (cmd ++ [x]) cmds v2 (.slice ea NN ek) vs Bc) := (H1.out.word (by rw [HMl.out]; exact h2) h3); clear h2 h3)
                    go_roundw
                    case rel => exact ⟨q1, cmd ++ [x], cmds, n + 1, vs, Bc, hq1, rfl, by rfl, by rw [List.length_append, HWn.out]; rfl, by omega, by have := HNN.out; omega, H2, by rw [HD1.out]; exact HI2⟩
                    case measure => simp [intOf]; omega

                · have HFin : Hid (R = .inr (moreC cmd cmds)) := by
                    have h := HI.out
                    rw [HDr.out, line_rem (by rw [hremV, decide_eq_false m123]; rfl) HK.out] at h
                    exact h.symm
                  have e123 : ((m : Int) != 123) = true := by
                    have : (m : Int) ≠ 123 := by omega
                    simpa using this
                  clear hremV hE
                  by_cases hc0 : cmd = []
                  · have HM : Hid (moreC cmd cmds = cmds) := by show _ = _; unfold moreC; rw [if_pos hc0]
                    have HRR : Hid (finC s.size (.inr cmds) = RR) := by
                      have h := HRR0.out
                      rw [HFin.out, HM.out] at h
                      exact h
                    have HW : Hid (wcount cmds = n) := by
                      have h := HWn.out
                      rw [hc0] at h
                      show _ = _
                      simpa using h.symm
                    have HNL : Hid (cmds.length = NN) := HNN
                    have hl0 : M = 0 := by rw [← HMl.out, hc0]; rfl
                    subst hl0
                    clear hc0
                    by_cases hbad : 16 < NN ∨ 64 < n
                    · have HF : Hid (RR = ([], 0, 91)) := by
                        show _ = _
                        rw [← HRR.out]
                        unfold finC
                        simp only []
                        rw [if_pos (by rw [HNL.out, HW.out]; exact hbad)]
                      by_cases h16 : 16 < NN
                      · have d16 : decide ((16 : Int) < (NN : Int)) = true := decide_eq_true (by omega)
                        clear hbad
                        go_wp2_with fail
                        refine (HBl.out _).mono ?_
                        rintro e w' ⟨rfl, rfl⟩
                        go_wp2
                        all_goals exact bodyPost_ret (v := .tuple #[.slice none 0 0, .int .i64 0, .int .i64 91]) (by simp [results, Try.results4, go_sem]) rfl (by rw [HF.out]; exact ⟨_, rfl, cmdsAt_nil _ _ H.out.below.size, H.out.below⟩)
                      · have d16 : decide ((16 : Int) < (NN : Int)) = false := decide_eq_false (by omega)
                        have d64 : decide ((64 : Int) < (n : Int)) = true := decide_eq_true (by omega)
                        clear hbad
                        go_wp2_with fail
                        refine (HBl.out _).mono ?_
                        rintro e w' ⟨rfl, rfl⟩
                        go_wp2
                        all_goals exact bodyPost_ret (v := .tuple #[.slice none 0 0, .int .i64 0, .int .i64 91]) (by simp [results, Try.results4, go_sem]) rfl (by rw [HF.out]; exact ⟨_, rfl, cmdsAt_nil _ _ H.out.below.size, H.out.below⟩)
                    · have HF : Hid (RR = (cmds, 0, 0)) := by
                        show _ = _
                        rw [← HRR.out]
                        unfold finC
                        simp only []
                        rw [if_neg (by rw [HNL.out, HW.out]; exact hbad)]
                      have d16 : decide ((16 : Int) < (NN : Int)) = false := decide_eq_false (by omega)
                      have d64 : decide ((64 : Int) < (n : Int)) = false := decide_eq_false (by omega)
                      clear hbad
                      go_wp2_with fail
                      refine (HBl.out _).mono ?_
                      rintro e w' ⟨rfl, rfl⟩
                      go_wp2
                      all_goals exact bodyPost_ret (v := .tuple #[.slice ea NN ek, .int .i64 0, .int .i64 0]) (by simp [results, Try.results4, go_sem]) rfl (by rw [HF.out]; exact ⟨_, rfl, H.out.made, H.out.below⟩)
                  · have HM : Hid (moreC cmd cmds = cmds ++ [cmd]) := by show _ = _; unfold moreC; rw [if_neg hc0]
                    have HRR : Hid (finC s.size (.inr (cmds ++ [cmd])) = RR) := by
                      have h := HRR0.out
                      rw [HFin.out, HM.out] at h
                      exact h
                    have HW : Hid (wcount (cmds ++ [cmd]) = n) := by
                      show _ = _
                      rw [← HM.out, more_count, HWn.out]
                    obtain ⟨N2, hN2⟩ : ∃ x, NN + 1 = x := ⟨_, rfl⟩
                    have HNL : Hid ((cmds ++ [cmd]).length = N2) := by show _ = _; rw [List.length_append, HNN.out]; exact hN2
                    have hl0 : 0 < M := by rw [← HMl.out]; exact List.length_pos_iff.2 hc0
                    have dl : decide ((0 : Int) < (M : Int)) = true := decide_eq_true (by omega)
                    have hlen : NN ≤ 16777216 := by omega
                    clear hc0
                    by_cases hbad : 16 < N2 ∨ 64 < n
                    · have HF : Hid (RR = ([], 0, 91)) := by
                        show _ = _
                        rw [← HRR.out]
                        unfold finC
                        simp only []
                        rw [if_pos (by rw [HNL.out, HW.out]; exact hbad)]
                      by_cases h16 : 16 < N2
                      · have d16 : decide ((16 : Int) < (N2 : Int)) = true := decide_eq_true (by omega)
                        clear hbad
                        go_wp2_with fail
                        refine (HBl.out _).mono ?_
                        rintro e w' ⟨rfl, rfl⟩
                        go_wp2_with (at_builtin; refine wpList_append_one wr rfl (.tmp 76) (.tmp 78) 22 29 rfl (.slice none 0 0) 24 Try.underlying22 infoSS rfl (by decide) w.heap.size (.slice ea NN ek) NN vs (.slice na M nk) rfl rfl HRow.out (by first | rfl | simp [Act.eval]) hlen H.out.below.size ?_; intro v2 w2 h2 h3; have h4 := H.out.command (by rw [HNN.out]; exact h2) h3; rw [hN2] at h2; obtain ⟨ea2, ek2, rfl⟩ := row_slice h2; have H2 : Hid (Hd w w2 [] (cmds ++ [cmd]) (.slice none 0 0) (.slice ea2 N2 ek2) (vs ++ [.slice na M nk]) w2.heap.size) := h4; clear h2 h3 h4)
                        all_goals exact bodyPost_ret (v := .tuple #[.slice none 0 0, .int .i64 0, .int .i64 91]) (by simp [results, Try.results4, go_sem]) rfl (by rw [HF.out]; exact ⟨_, rfl, cmdsAt_nil _ _ H2.out.below.size, H2.out.below⟩)
                      · have d16 : decide ((16 : Int) < (N2 : Int)) = false := decide_eq_false (by omega)
                        have d64 : decide ((64 : Int) < (n : Int)) = true := decide_eq_true (by omega)
                        clear hbad
                        go_wp2_with fail
                        refine (HBl.out _).mono ?_
                        rintro e w' ⟨rfl, rfl⟩
                        go_wp2_with (at_builtin; refine wpList_append_one wr rfl (.tmp 76) (.tmp 78) 22 29 rfl (.slice none 0 0) 24 Try.underlying22 infoSS rfl (by decide) w.heap.size (.slice ea NN ek) NN vs (.slice na M nk) rfl rfl HRow.out (by first | rfl | simp [Act.eval]) hlen H.out.below.size ?_; intro v2 w2 h2 h3; have h4 := H.out.command (by rw [HNN.out]; exact h2) h3; rw [hN2] at h2; obtain ⟨ea2, ek2, rfl⟩ := row_slice h2; have H2 : Hid (Hd w w2 [] (cmds ++ [cmd]) (.slice none 0 0) (.slice ea2 N2 ek2) (vs ++ [.slice na M nk]) w2.heap.size) := h4; clear h2 h3 h4)
                        all_goals exact bodyPost_ret (v := .tuple #[.slice none 0 0, .int .i64 0, .int .i64 91]) (by simp [results, Try.results4, go_sem]) rfl (by rw [HF.out]; exact ⟨_, rfl, cmdsAt_nil _ _ H2.out.below.size, H2.out.below⟩)
                    · have HF : Hid (RR = (cmds ++ [cmd], 0, 0)) := by
                        show _ = _
                        rw [← HRR.out]
                        unfold finC
                        simp only []
                        rw [if_neg (by rw [HNL.out, HW.out]; exact hbad)]
                      have d16 : decide ((16 : Int) < (N2 : Int)) = false := decide_eq_false (by omega)
                      have d64 : decide ((64 : Int) < (n : Int)) = false := decide_eq_false (by omega)
                      clear hbad
                      go_wp2_with fail
                      refine (HBl.out _).mono ?_
                      rintro e w' ⟨rfl, rfl⟩
                      go_wp2_with (at_builtin; refine wpList_append_one wr rfl (.tmp 76) (.tmp 78) 22 29 rfl (.slice none 0 0) 24 Try.underlying22 infoSS rfl (by decide) w.heap.size (.slice ea NN ek) NN vs (.slice na M nk) rfl rfl HRow.out (by first | rfl | simp [Act.eval]) hlen H.out.below.size ?_; intro v2 w2 h2 h3; have h4 := H.out.command (by rw [HNN.out]; exact h2) h3; rw [hN2] at h2; obtain ⟨ea2, ek2, rfl⟩ := row_slice h2; have H2 : Hid (Hd w w2 [] (cmds ++ [cmd]) (.slice none 0 0) (.slice ea2 N2 ek2) (vs ++ [.slice na M nk]) w2.heap.size) := h4; clear h2 h3 h4)
                      all_goals exact bodyPost_ret (v := .tuple #[.slice ea2 N2 ek2, .int .i64 0, .int .i64 0]) (by simp [results, Try.results4, go_sem]) rfl (by rw [HF.out]; exact ⟨_, rfl, H2.out.made, H2.out.below⟩)
              · have HFin : Hid (R = .inr (moreC cmd cmds)) := by
                  have h := HI.out
                  rw [HDr.out, line_rem (by unfold remB; rw [HK.out, drop_end s Q1 hq1]; rfl) HK.out] at h
                  exact h.symm
                have eq1 : ((Q1 : Int) == (s.size : Int)) = true := by
                  have : (Q1 : Int) = (s.size : Int) := by have := HQ1.out; omega
                  rw [this]; exact beq_self_eq_true _
                clear hE hq1
                by_cases hc0 : cmd = []
                · have HM : Hid (moreC cmd cmds = cmds) := by show _ = _; unfold moreC; rw [if_pos hc0]
                  have HRR : Hid (finC s.size (.inr cmds) = RR) := by
                    have h := HRR0.out
                    rw [HFin.out, HM.out] at h
                    exact h
                  have HW : Hid (wcount cmds = n) := by
                    have h := HWn.out
                    rw [hc0] at h
                    show _ = _
                    simpa using h.symm
                  have HNL : Hid (cmds.length = NN) := HNN
                  have hl0 : M = 0 := by rw [← HMl.out, hc0]; rfl
                  subst hl0
                  clear hc0
                  by_cases hbad : 16 < NN ∨ 64 < n
                  · have HF : Hid (RR = ([], 0, 91)) := by
                      show _ = _
                      rw [← HRR.out]
                      unfold finC
                      simp only []
                      rw [if_pos (by rw [HNL.out, HW.out]; exact hbad)]
                    by_cases h16 : 16 < NN
                    · have d16 : decide ((16 : Int) < (NN : Int)) = true := decide_eq_true (by omega)
                      clear hbad
                      go_wp2_with fail
                      refine (HBl.out _).mono ?_
                      rintro e w' ⟨rfl, rfl⟩
                      go_wp2
                      all_goals exact bodyPost_ret (v := .tuple #[.slice none 0 0, .int .i64 0, .int .i64 91]) (by simp [results, Try.results4, go_sem]) rfl (by rw [HF.out]; exact ⟨_, rfl, cmdsAt_nil _ _ H.out.below.size, H.out.below⟩)
                    · have d16 : decide ((16 : Int) < (NN : Int)) = false := decide_eq_false (by omega)
                      have d64 : decide ((64 : Int) < (n : Int)) = true := decide_eq_true (by omega)
                      clear hbad
                      go_wp2_with fail
                      refine (HBl.out _).mono ?_
                      rintro e w' ⟨rfl, rfl⟩
                      go_wp2
                      all_goals exact bodyPost_ret (v := .tuple #[.slice none 0 0, .int .i64 0, .int .i64 91]) (by simp [results, Try.results4, go_sem]) rfl (by rw [HF.out]; exact ⟨_, rfl, cmdsAt_nil _ _ H.out.below.size, H.out.below⟩)
                  · have HF : Hid (RR = (cmds, 0, 0)) := by
                      show _ = _
                      rw [← HRR.out]
                      unfold finC
                      simp only []
                      rw [if_neg (by rw [HNL.out, HW.out]; exact hbad)]
                    have d16 : decide ((16 : Int) < (NN : Int)) = false := decide_eq_false (by omega)
                    have d64 : decide ((64 : Int) < (n : Int)) = false := decide_eq_false (by omega)
                    clear hbad
                    go_wp2_with fail
                    refine (HBl.out _).mono ?_
                    rintro e w' ⟨rfl, rfl⟩
                    go_wp2
                    all_goals exact bodyPost_ret (v := .tuple #[.slice ea NN ek, .int .i64 0, .int .i64 0]) (by simp [results, Try.results4, go_sem]) rfl (by rw [HF.out]; exact ⟨_, rfl, H.out.made, H.out.below⟩)
                · have HM : Hid (moreC cmd cmds = cmds ++ [cmd]) := by show _ = _; unfold moreC; rw [if_neg hc0]
                  have HRR : Hid (finC s.size (.inr (cmds ++ [cmd])) = RR) := by
                    have h := HRR0.out
                    rw [HFin.out, HM.out] at h
                    exact h
                  have HW : Hid (wcount (cmds ++ [cmd]) = n) := by
                    show _ = _
                    rw [← HM.out, more_count, HWn.out]
                  obtain ⟨N2, hN2⟩ : ∃ x, NN + 1 = x := ⟨_, rfl⟩
                  have HNL : Hid ((cmds ++ [cmd]).length = N2) := by show _ = _; rw [List.length_append, HNN.out]; exact hN2
                  have hl0 : 0 < M := by rw [← HMl.out]; exact List.length_pos_iff.2 hc0
                  have dl : decide ((0 : Int) < (M : Int)) = true := decide_eq_true (by omega)
                  have hlen : NN ≤ 16777216 := by omega
                  clear hc0
                  by_cases hbad : 16 < N2 ∨ 64 < n
                  · have HF : Hid (RR = ([], 0, 91)) := by
                      show _ = _
                      rw [← HRR.out]
                      unfold finC
                      simp only []
                      rw [if_pos (by rw [HNL.out, HW.out]; exact hbad)]
                    by_cases h16 : 16 < N2
                    · have d16 : decide ((16 : Int) < (N2 : Int)) = true := decide_eq_true (by omega)
                      clear hbad
                      go_wp2_with fail
                      refine (HBl.out _).mono ?_
                      rintro e w' ⟨rfl, rfl⟩
                      go_wp2_with (at_builtin; refine wpList_append_one wr rfl (.tmp 76) (.tmp 78) 22 29 rfl (.slice none 0 0) 24 Try.underlying22 infoSS rfl (by decide) w.heap.size (.slice ea NN ek) NN vs (.slice na M nk) rfl rfl HRow.out (by first | rfl | simp [Act.eval]) hlen H.out.below.size ?_; intro v2 w2 h2 h3; have h4 := H.out.command (by rw [HNN.out]; exact h2) h3; rw [hN2] at h2; obtain ⟨ea2, ek2, rfl⟩ := row_slice h2; have H2 : Hid (Hd w w2 [] (cmds ++ [cmd]) (.slice none 0 0) (.slice ea2 N2 ek2) (vs ++ [.slice na M nk]) w2.heap.size) := h4; clear h2 h3 h4)
                      all_goals exact bodyPost_ret (v := .tuple #[.slice none 0 0, .int .i64 0, .int .i64 91]) (by simp [results, Try.results4, go_sem]) rfl (by rw [HF.out]; exact ⟨_, rfl, cmdsAt_nil _ _ H2.out.below.size, H2.out.below⟩)
                    · have d16 : decide ((16 : Int) < (N2 : Int)) = false := decide_eq_false (by omega)
                      have d64 : decide ((64 : Int) < (n : Int)) = true := decide_eq_true (by omega)
                      clear hbad
                      go_wp2_with fail
                      refine (HBl.out _).mono ?_
                      rintro e w' ⟨rfl, rfl⟩
                      go_wp2_with (at_builtin; refine wpList_append_one wr rfl (.tmp 76) (.tmp 78) 22 29 rfl (.slice none 0 0) 24 Try.underlying22 infoSS rfl (by decide) w.heap.size (.slice ea NN ek) NN vs (.slice na M nk) rfl rfl HRow.out (by first | rfl | simp [Act.eval]) hlen H.out.below.size ?_; intro v2 w2 h2 h3; have h4 := H.out.command (by rw [HNN.out]; exact h2) h3; rw [hN2] at h2; obtain ⟨ea2, ek2, rfl⟩ := row_slice h2; have H2 : Hid (Hd w w2 [] (cmds ++ [cmd]) (.slice none 0 0) (.slice ea2 N2 ek2) (vs ++ [.slice na M nk]) w2.heap.size) := h4; clear h2 h3 h4)
                      all_goals exact bodyPost_ret (v := .tuple #[.slice none 0 0, .int .i64 0, .int .i64 91]) (by simp [results, Try.results4, go_sem]) rfl (by rw [HF.out]; exact ⟨_, rfl, cmdsAt_nil _ _ H2.out.below.size, H2.out.below⟩)
                  · have HF : Hid (RR = (cmds ++ [cmd], 0, 0)) := by
                      show _ = _
                      rw [← HRR.out]
                      unfold finC
                      simp only []
                      rw [if_neg (by rw [HNL.out, HW.out]; exact hbad)]
                    have d16 : decide ((16 : Int) < (N2 : Int)) = false := decide_eq_false (by omega)
                    have d64 : decide ((64 : Int) < (n : Int)) = false := decide_eq_false (by omega)
                    clear hbad
                    go_wp2_with fail
                    refine (HBl.out _).mono ?_
                    rintro e w' ⟨rfl, rfl⟩
                    go_wp2_with (at_builtin; refine wpList_append_one wr rfl (.tmp 76) (.tmp 78) 22 29 rfl (.slice none 0 0) 24 Try.underlying22 infoSS rfl (by decide) w.heap.size (.slice ea NN ek) NN vs (.slice na M nk) rfl rfl HRow.out (by first | rfl | simp [Act.eval]) hlen H.out.below.size ?_; intro v2 w2 h2 h3; have h4 := H.out.command (by rw [HNN.out]; exact h2) h3; rw [hN2] at h2; obtain ⟨ea2, ek2, rfl⟩ := row_slice h2; have H2 : Hid (Hd w w2 [] (cmds ++ [cmd]) (.slice none 0 0) (.slice ea2 N2 ek2) (vs ++ [.slice na M nk]) w2.heap.size) := h4; clear h2 h3 h4)
                    all_goals exact bodyPost_ret (v := .tuple #[.slice ea2 N2 ek2, .int .i64 0, .int .i64 0]) (by simp [results, Try.results4, go_sem]) rfl (by rw [HF.out]; exact ⟨_, rfl, H2.out.made, H2.out.below⟩)
            · have e35 : ((k : Int) == 35) = false := by
                have : (k : Int) ≠ 35 := by omega
                simpa using this
              have hrem : remB c (s.data.toList.drop Q1) = false := by unfold remB; rw [HK.out, decide_eq_false k35]; rfl
              cases hw : wordF (s.data.toList.drop q) with
              | inl f =>
                have HF : Hid (RR = ([], s.size - f.length, 90)) := by
                  have h := HRR0.out
                  rw [← HI.out, HDr.out, line_word hE hrem] at h
                  unfold lineW at h
                  rw [ontoW_nil, ← HDr.out, hw] at h
                  exact h.symm
                have HWd : Hid (∀ W, Calls Try.prog 9 #[.string s, .int .i64 (q : Int)] W (WordR W s q (.inl f))) := fun W => wordR_any s q W hqs hs8 _ hw
                obtain ⟨pl, hpl⟩ : ∃ x, s.size - f.length = x := ⟨_, rfl⟩
                clear hw hE hrem
                go_wp2_with fail
                refine (HBl.out _).mono ?_
                rintro e w' ⟨rfl, rfl⟩
                go_wp2_with fail
                refine (HWd.out _).mono ?_
                rintro e w1 ⟨rfl, hb1⟩
                have HB1 : Hid (Below w.heap.size w w1) := H.out.below.trans (hb1.mono H.out.below.size)
                rw [hpl] at HF ⊢
                clear hb1 hpl
                go_wp2
                exact bodyPost_ret (v := .tuple #[.slice none 0 0, .int .i64 (pl : Int), .int .i64 90]) (by simp [results, Try.results4, go_sem]) rfl (by rw [HF.out]; exact ⟨_, rfl, cmdsAt_nil _ _ HB1.out.size, HB1.out⟩)
              | inr z =>
                obtain ⟨x, u⟩ := z
                have HI2 : Hid (lineF u (cmd ++ [x]) cmds = R) := by
                  have h := HI.out
                  rw [HDr.out, line_word hE hrem] at h
                  unfold lineW at h
                  rw [ontoW_nil, ← HDr.out, hw] at h
                  exact h
                have hsh : u.length < s.size - q := by
                  have h := hw
                  rw [HDr.out] at h
                  have h2 := word_short hE h
                  rw [← HDr.out, List.length_drop, size_data] at h2
                  exact h2
                have HWd : Hid (∀ W, Calls Try.prog 9 #[.string s, .int .i64 (q : Int)] W (WordR W s q (.inr (x, u)))) := fun W => wordR_any s q W hqs hs8 _ hw
                clear hw hE hrem
                go_wp2_with fail
                refine (HBl.out _).mono ?_
                rintro e w' ⟨rfl, rfl⟩
                go_wp2_with fail
                refine (HWd.out _).mono ?_
                rintro e w1 ⟨q1, rfl, hd1, hq1, hqq, hb1⟩
                have HD1 : Hid (s.data.toList.drop q1 = u) := hd1
                have hlt1 : q < q1 := by
                  rw [← hd1, List.length_drop, size_data] at hsh
                  omega
                have H1 : Hid (Hd w w1 cmd cmds (.slice na M nk) (.slice ea NN ek) vs Bc) := H.out.under hb1
                have HRw : Hid (w1.ownsRow Bc 9 1 (.slice na M nk) M (cmd.map strV)) := by
                  have h := H1.out.cmd
                  unfold StrRow at h
                  rw [HMl.out] at h
                  exact h
                have dq : decide ((q1 : Int) < 0) = false := decide_eq_false (by omega)
                have hwn : IntKind.i64.wrap ((n : Int) + 1) = ((n + 1 : Nat) : Int) := by rw [IntKind.wrap_i64]; omega
                have hlen : M ≤ 16777216 := by omega
                clear hb1 hd1 hsh
                unfold strV
                go_wp2_with (at_builtin; refine wpList_append_one w1 rfl (.tmp 66) (.tmp 68) 29 9 rfl (.string .empty) 16 Try.underlying29 infoS rfl (by decide) Bc (.slice na M nk) M (cmd.map strV) (.string (str x)) rfl rfl HRw.out (by first | rfl | simp [Act.eval]) hlen H1.out.hi ?_; intro v2 w2 h2 h3; have H2 : Hid (Hd w w2 (cmd ++ [x]) cmds v2 (.slice ea NN ek) vs Bc) := (H1.out.word (by rw [HMl.out]; exact h2) h3); clear h2 h3)
                go_roundw
                case rel => exact ⟨q1, cmd ++ [x], cmds, n + 1, vs, Bc, hq1, rfl, by rfl, by rw [List.length_append, HWn.out]; rfl, by omega, by have := HNN.out; omega, H2, by rw [HD1.out]; exact HI2⟩
                case measure => simp [intOf]; omega

      · have HFin : Hid (R = .inr (moreC cmd cmds)) := by
          have h := HI.out
          rw [drop_end s q hlt, line_nil] at h
          exact h.symm
        by_cases hc0 : cmd = []
        · have HM : Hid (moreC cmd cmds = cmds) := by show _ = _; unfold moreC; rw [if_pos hc0]
          have HRR : Hid (finC s.size (.inr cmds) = RR) := by
            have h := HRR0.out
            rw [HFin.out, HM.out] at h
            exact h
          have HW : Hid (wcount cmds = n) := by
            have h := HWn.out
            rw [hc0] at h
            show _ = _
            simpa using h.symm
          have HNL : Hid (cmds.length = NN) := HNN
          have hl0 : M = 0 := by rw [← HMl.out, hc0]; rfl
          subst hl0
          clear hc0
          by_cases hbad : 16 < NN ∨ 64 < n
          · have HF : Hid (RR = ([], 0, 91)) := by
              show _ = _
              rw [← HRR.out]
              unfold finC
              simp only []
              rw [if_pos (by rw [HNL.out, HW.out]; exact hbad)]
            by_cases h16 : 16 < NN
            · have d16 : decide ((16 : Int) < (NN : Int)) = true := decide_eq_true (by omega)
              clear hbad
              go_wp2
              all_goals exact bodyPost_ret (v := .tuple #[.slice none 0 0, .int .i64 0, .int .i64 91]) (by simp [results, Try.results4, go_sem]) rfl (by rw [HF.out]; exact ⟨_, rfl, cmdsAt_nil _ _ H.out.below.size, H.out.below⟩)
            · have d16 : decide ((16 : Int) < (NN : Int)) = false := decide_eq_false (by omega)
              have d64 : decide ((64 : Int) < (n : Int)) = true := decide_eq_true (by omega)
              clear hbad
              go_wp2
              all_goals exact bodyPost_ret (v := .tuple #[.slice none 0 0, .int .i64 0, .int .i64 91]) (by simp [results, Try.results4, go_sem]) rfl (by rw [HF.out]; exact ⟨_, rfl, cmdsAt_nil _ _ H.out.below.size, H.out.below⟩)
          · have HF : Hid (RR = (cmds, 0, 0)) := by
              show _ = _
              rw [← HRR.out]
              unfold finC
              simp only []
              rw [if_neg (by rw [HNL.out, HW.out]; exact hbad)]
            have d16 : decide ((16 : Int) < (NN : Int)) = false := decide_eq_false (by omega)
            have d64 : decide ((64 : Int) < (n : Int)) = false := decide_eq_false (by omega)
            clear hbad
            go_wp2
            all_goals exact bodyPost_ret (v := .tuple #[.slice ea NN ek, .int .i64 0, .int .i64 0]) (by simp [results, Try.results4, go_sem]) rfl (by rw [HF.out]; exact ⟨_, rfl, H.out.made, H.out.below⟩)
        · have HM : Hid (moreC cmd cmds = cmds ++ [cmd]) := by show _ = _; unfold moreC; rw [if_neg hc0]
          have HRR : Hid (finC s.size (.inr (cmds ++ [cmd])) = RR) := by
            have h := HRR0.out
            rw [HFin.out, HM.out] at h
            exact h
          have HW : Hid (wcount (cmds ++ [cmd]) = n) := by
            show _ = _
            rw [← HM.out, more_count, HWn.out]
          obtain ⟨N2, hN2⟩ : ∃ x, NN + 1 = x := ⟨_, rfl⟩
          have HNL : Hid ((cmds ++ [cmd]).length = N2) := by show _ = _; rw [List.length_append, HNN.out]; exact hN2
          have hl0 : 0 < M := by rw [← HMl.out]; exact List.length_pos_iff.2 hc0
          have dl : decide ((0 : Int) < (M : Int)) = true := decide_eq_true (by omega)
          have hlen : NN ≤ 16777216 := by omega
          clear hc0
          by_cases hbad : 16 < N2 ∨ 64 < n
          · have HF : Hid (RR = ([], 0, 91)) := by
              show _ = _
              rw [← HRR.out]
              unfold finC
              simp only []
              rw [if_pos (by rw [HNL.out, HW.out]; exact hbad)]
            by_cases h16 : 16 < N2
            · have d16 : decide ((16 : Int) < (N2 : Int)) = true := decide_eq_true (by omega)
              clear hbad
              go_wp2_with (at_builtin; refine wpList_append_one wr rfl (.tmp 76) (.tmp 78) 22 29 rfl (.slice none 0 0) 24 Try.underlying22 infoSS rfl (by decide) w.heap.size (.slice ea NN ek) NN vs (.slice na M nk) rfl rfl HRow.out (by first | rfl | simp [Act.eval]) hlen H.out.below.size ?_; intro v2 w2 h2 h3; have h4 := H.out.command (by rw [HNN.out]; exact h2) h3; rw [hN2] at h2; obtain ⟨ea2, ek2, rfl⟩ := row_slice h2; have H2 : Hid (Hd w w2 [] (cmds ++ [cmd]) (.slice none 0 0) (.slice ea2 N2 ek2) (vs ++ [.slice na M nk]) w2.heap.size) := h4; clear h2 h3 h4)
              all_goals exact bodyPost_ret (v := .tuple #[.slice none 0 0, .int .i64 0, .int .i64 91]) (by simp [results, Try.results4, go_sem]) rfl (by rw [HF.out]; exact ⟨_, rfl, cmdsAt_nil _ _ H2.out.below.size, H2.out.below⟩)
            · have d16 : decide ((16 : Int) < (N2 : Int)) = false := decide_eq_false (by omega)
              have d64 : decide ((64 : Int) < (n : Int)) = true := decide_eq_true (by omega)
              clear hbad
              go_wp2_with (at_builtin; refine wpList_append_one wr rfl (.tmp 76) (.tmp 78) 22 29 rfl (.slice none 0 0) 24 Try.underlying22 infoSS rfl (by decide) w.heap.size (.slice ea NN ek) NN vs (.slice na M nk) rfl rfl HRow.out (by first | rfl | simp [Act.eval]) hlen H.out.below.size ?_; intro v2 w2 h2 h3; have h4 := H.out.command (by rw [HNN.out]; exact h2) h3; rw [hN2] at h2; obtain ⟨ea2, ek2, rfl⟩ := row_slice h2; have H2 : Hid (Hd w w2 [] (cmds ++ [cmd]) (.slice none 0 0) (.slice ea2 N2 ek2) (vs ++ [.slice na M nk]) w2.heap.size) := h4; clear h2 h3 h4)
              all_goals exact bodyPost_ret (v := .tuple #[.slice none 0 0, .int .i64 0, .int .i64 91]) (by simp [results, Try.results4, go_sem]) rfl (by rw [HF.out]; exact ⟨_, rfl, cmdsAt_nil _ _ H2.out.below.size, H2.out.below⟩)
          · have HF : Hid (RR = (cmds ++ [cmd], 0, 0)) := by
              show _ = _
              rw [← HRR.out]
              unfold finC
              simp only []
              rw [if_neg (by rw [HNL.out, HW.out]; exact hbad)]
            have d16 : decide ((16 : Int) < (N2 : Int)) = false := decide_eq_false (by omega)
            have d64 : decide ((64 : Int) < (n : Int)) = false := decide_eq_false (by omega)
            clear hbad
            go_wp2_with (at_builtin; refine wpList_append_one wr rfl (.tmp 76) (.tmp 78) 22 29 rfl (.slice none 0 0) 24 Try.underlying22 infoSS rfl (by decide) w.heap.size (.slice ea NN ek) NN vs (.slice na M nk) rfl rfl HRow.out (by first | rfl | simp [Act.eval]) hlen H.out.below.size ?_; intro v2 w2 h2 h3; have h4 := H.out.command (by rw [HNN.out]; exact h2) h3; rw [hN2] at h2; obtain ⟨ea2, ek2, rfl⟩ := row_slice h2; have H2 : Hid (Hd w w2 [] (cmds ++ [cmd]) (.slice none 0 0) (.slice ea2 N2 ek2) (vs ++ [.slice na M nk]) w2.heap.size) := h4; clear h2 h3 h4)
            all_goals exact bodyPost_ret (v := .tuple #[.slice ea2 N2 ek2, .int .i64 0, .int .i64 0]) (by simp [results, Try.results4, go_sem]) rfl (by rw [HF.out]; exact ⟨_, rfl, H2.out.made, H2.out.below⟩)

end Go.Proofs.Ytghkhnnlhkdceaa
