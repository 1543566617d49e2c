/-
  Lines of commands: the machine of a line (mkread.py).
-/
import Derived.Test.YtghkhnnlhkdceaaXLine
namespace Go.Proofs.Ytghkhnnlhkdceaa
open Go.RowKit
set_option linter.unusedVariables false
set_option maxRecDepth 100000

def wcount (cmds : List (List (List UInt8))) : Nat := (cmds.map List.length).sum
theorem more_count (cmd : List (List UInt8)) (cmds : List (List (List UInt8))) : wcount (moreC cmd cmds) = wcount cmds + cmd.length := by
  unfold moreC
  split
  · rename_i h; rw [h]; rfl
  · simp [wcount]
theorem more_len (cmd : List (List UInt8)) (cmds : List (List (List UInt8))) : (moreC cmd cmds).length ≤ cmds.length + 1 := by
  unfold moreC
  split
  · omega
  · simp
theorem prefix_rem (c : UInt8) (t : List UInt8) (h : c.toNat = 35) : (!Lib.hasPrefix (c :: t) [35, 123]) = remB c t := by
  have hc : c = 35 := UInt8.toNat_inj.1 h
  unfold remB Lib.hasPrefix
  rw [h]
  have e1 : ((35 : UInt8) == c) = true := by rw [hc]; exact beq_self_eq_true _
  cases t with
  | nil =>
    rw [List.isPrefixOf, e1]
    rfl
  | cons d u =>
    rw [List.isPrefixOf, e1, List.isPrefixOf, List.isPrefixOf, List.head?_cons]
    by_cases e : d = 123
    · have e2 : ((123 : UInt8) == d) = true := by rw [e]; exact beq_self_eq_true _
      have e3 : (some d == some (123 : UInt8)) = true := by rw [e]; exact beq_self_eq_true _
      rw [e2, e3]
      rfl
    · have e2 : ((123 : UInt8) == d) = false := by rw [beq_eq_false_iff_ne]; exact fun h => e h.symm
      have e3 : (some d == some (123 : UInt8)) = false := by rw [beq_eq_false_iff_ne]; exact fun h => e (Option.some.inj h)
      rw [e2, e3]
      rfl
def ReadA (w0 : World) (b : Nat) (s : ByteArray) (RES : Sum (List UInt8) (List (List (List UInt8)))) (e : Ending) (w' : World) : Prop := match RES with
  | .inl f => e = .returned (.tuple #[.int .i64 ((s.size - f.length : Nat) : Int), .bool false]) ∧ Below w0.heap.size w0 w'
  | .inr cs => e = .returned (.tuple #[.int .i64 0, .bool true]) ∧ ∃ q n, Rd w0 w' b s q [] [] cs n ∧ n = wcount cs
def FrR (b : Nat) (a : Act) : Prop := a.defers = [] ∧ a.tmps.size = 49 ∧ a.tmps[0]? = some (.pointer (some ⟨b, 0, none⟩))
def rinv (RES : Sum (List UInt8) (List (List (List UInt8)))) (lab : Nat) (l r : List UInt8) (cmd : List (List UInt8)) (cmds : List (List (List UInt8))) (n q : Nat) : Prop := match lab with
  | 0 => l = [] ∧ RES = .inr (moreC cmd cmds)
  | 1 => l = [] ∧ lineF r cmd cmds = RES
  | 2 => lineW r l cmd cmds = RES ∧ n + 1 ≤ q
  | _ => False
def rmeas (lab : Nat) (s : ByteArray) (q : Nat) : Nat := match lab with
  | 0 => 0
  | 1 => 2 * (s.size - q) + 1
  | _ => 2 * (s.size - q) + 2
def RJ (w0 : World) (b : Nat) (s : ByteArray) (RES : Sum (List UInt8) (List (List (List UInt8)))) (lab m : Nat) (a : Act) (w : World) : Prop := FrR b a ∧ ∃ q l' cmd cmds n, Rd w0 w b s q l' cmd cmds n ∧ l'.length ≤ q ∧ n = wcount cmds + cmd.length ∧ n ≤ q ∧ cmds.length ≤ q ∧ m = rmeas lab s q ∧ rinv RES lab l' (s.data.toList.drop q) cmd cmds n q

set_option maxHeartbeats 16000000 in
theorem read_any {w0 w : World} {b : Nat} {s : ByteArray} (h : Rd w0 w b s 0 [] [] [] 0) (hs : s.size ≤ 8192) (RES : Sum (List UInt8) (List (List (List UInt8)))) (hR : lineF s.data.toList [] [] = RES) :
    Calls Try.prog 10 #[.pointer (some ⟨b, 0, none⟩)] w (ReadA w0 b s RES) := by
  have HR0 : Hid (Rd w0 w b s 0 [] [] [] 0) := h
  have HI0 : Hid (lineF (s.data.toList.drop 0) [] [] = RES) := hR
  clear h hR
  go_enter Try.func10, Try.ntmps10
  go_wp2
  refine wp_scope_3 (RJ w0 b s RES) rfl rfl rfl ?hJ ?first ?p0 ?p1 ?p2
  case hJ =>
    rintro lab m a wr ⟨_, q, l', cmd, cmds, n, _, _, _, _, _, _, hinv⟩
    match lab, hinv with
    | 0, _ => decide
    | 1, _ => decide
    | 2, _ => decide
  case first =>
    obtain ⟨q, hq⟩ : ∃ q, 0 = q := ⟨_, rfl⟩
    obtain ⟨cmd, hcmd⟩ : ∃ x : List (List UInt8), [] = x := ⟨_, rfl⟩
    obtain ⟨cmds, hcmds⟩ : ∃ x : List (List (List UInt8)), [] = x := ⟨_, rfl⟩
    obtain ⟨n, hn0⟩ : ∃ x, 0 = x := ⟨_, rfl⟩
    obtain ⟨wr, hwr⟩ : ∃ x, w = x := ⟨_, rfl⟩
    have hn : n = wcount cmds + cmd.length := by rw [← hn0, ← hcmds, ← hcmd]; rfl
    have hnq : n ≤ q := by omega
    have hcq : cmds.length ≤ q := by rw [← hcmds]; simp
    have HR1 : Hid (Rd w0 wr b s q [] cmd cmds n) := by rw [← hq, ← hn0, ← hcmds, ← hcmd, ← hwr]; exact HR0.out
    have HI1 : Hid (lineF (s.data.toList.drop q) cmd cmds = RES) := by rw [← hq, ← hcmds, ← hcmd]; exact HI0.out
    clear HR0 HI0 hq hcmd hcmds hn0
    subst hwr
    have hRq : Rd w0 w b s q [] cmd cmds n := HR1.out
    have HIn : Hid (lineF (s.data.toList.drop q) cmd cmds = RES) := HI1
    have hat := hRq.at
    clear HR1 HI1
    go_wp2_with fail
    go_step3
    have HNx : Hid (Calls Try.prog 13 #[.pointer (some ⟨b, 0, none⟩)] w fun e w' => e = .returned (.int .i64 (nextI s q)) ∧ Rd w0 w' b s q [] cmd cmds n) := next_any hRq hs
    clear hRq
    by_cases hqs : q < s.size
    · rw [nextI_lt hqs] at HNx
      obtain ⟨c, hc⟩ : ∃ c, s[q] = c := ⟨_, rfl⟩
      have HC : Hid (s[q] = c) := hc
      obtain ⟨k, hk⟩ : ∃ k, c.toNat = k := ⟨_, rfl⟩
      have HK : Hid (c.toNat = k) := hk
      have HDr : Hid (s.data.toList.drop q = c :: s.data.toList.drop (q + 1)) := by rw [← hc]; exact drop_at s q hqs
      have hk256 := UInt8.toNat_lt c
      rw [hk] at hk256
      have kn1 : ((k : Int) == -1) = false := by simp
      rw [hc, hk] at HNx
      clear hc hk
      by_cases kb : k = 32 ∨ k = 9
      · have HI : Hid (lineF (s.data.toList.drop (q + 1)) cmd cmds = RES) := by
          have h := HIn.out
          rw [HDr.out, line_blank (by unfold blankB; rw [HK.out]; exact decide_eq_true kb)] at h
          exact h
        go_wp2_with fail
        refine HNx.out.mono ?_
        rintro e w1 ⟨rfl, hR'⟩
        have HSk : Hid (Calls Try.prog 14 #[.pointer (some ⟨b, 0, none⟩)] w1 fun e w' => e = .returned (.int .i64 (s[q].toNat : Int)) ∧ Rd w0 w' b s (q + 1) [] cmd cmds n) := skip_any hR' hs hqs
        clear hR' HNx
        rcases kb with rfl | rfl
        all_goals (
          go_wp2_with fail
          refine HSk.out.mono ?_
          rintro e w2 ⟨rfl, hR'⟩
          have HR2 : Hid (Rd w0 w2 b s (q + 1) [] cmd cmds n) := hR'
          clear hR' HSk
          go_wp2
          go_step3
          exact ⟨_, ⟨rfl, rfl, rfl⟩, (q + 1), [], cmd, cmds, n, HR2.out, Nat.zero_le _, hn, by omega, by omega, rfl, rfl, HI.out⟩
    )
      · by_cases k59 : k = 59
        · subst k59
          have HI : Hid (lineF (s.data.toList.drop (q + 1)) [] (moreC cmd cmds) = RES) := by
            have h := HIn.out
            rw [HDr.out, line_semi HK.out] at h
            exact h
          have hmc := more_count cmd cmds
          have hml := more_len cmd cmds
          go_wp2_with fail
          refine HNx.out.mono ?_
          rintro e w1 ⟨rfl, hR'⟩
          have HSk : Hid (Calls Try.prog 14 #[.pointer (some ⟨b, 0, none⟩)] w1 fun e w' => e = .returned (.int .i64 (s[q].toNat : Int)) ∧ Rd w0 w' b s (q + 1) [] cmd cmds n) := skip_any hR' hs hqs
          clear hR' HNx
          go_wp2_with fail
          refine HSk.out.mono ?_
          rintro e w2 ⟨rfl, hR'⟩
          have HEc : Hid (Calls Try.prog 15 #[.pointer (some ⟨b, 0, none⟩)] w2 fun e w' => e = .returned (.tuple #[]) ∧ Rd w0 w' b s (q + 1) [] [] (moreC cmd cmds) n) := endCommand_any hR' (by omega) (by omega)
          clear hR' HSk
          go_wp2_with fail
          refine HEc.out.mono ?_
          rintro e w3 ⟨rfl, hR'⟩
          have HR3 : Hid (Rd w0 w3 b s (q + 1) [] [] (moreC cmd cmds) n) := hR'
          clear hR' HEc
          go_wp2
          go_step3
          exact ⟨_, ⟨rfl, rfl, rfl⟩, (q + 1), [], [], (moreC cmd cmds), n, HR3.out, Nat.zero_le _, (by rw [hmc]; simpa using hn), by omega, by omega, rfl, rfl, HI.out⟩
        · have HEn : Hid (endB c = false) := by
            show _ = _
            unfold endB blankB
            rw [HK.out, decide_eq_false kb, decide_eq_false k59]
            rfl
          by_cases k35 : k = 35
          · subst k35
            have hpf := prefix_rem c (s.data.toList.drop (q + 1)) HK.out
            rw [← HDr.out] at hpf
            cases hre : remB c (s.data.toList.drop (q + 1)) with
            | true =>
              have HF : Hid (RES = .inr (moreC cmd cmds)) := by
                have h := HIn.out
                rw [HDr.out, line_rem hre HK.out] at h
                exact h.symm
              rw [hre] at hpf
              go_wp2_with fail
              refine HNx.out.mono ?_
              rintro e w1 ⟨rfl, hR'⟩
              have HRm : Hid (Calls Try.prog 16 #[.pointer (some ⟨b, 0, none⟩)] w1 fun e w' => e = .returned (.bool true) ∧ Rd w0 w' b s q [] cmd cmds n) := by
                have h := isRemark_any hR' hs
                rw [hpf] at h
                exact h
              clear hR' HNx hpf hre
              go_wp2_with fail
              refine HRm.out.mono ?_
              rintro e w2 ⟨rfl, hR'⟩
              have HR2 : Hid (Rd w0 w2 b s q [] cmd cmds n) := hR'
              clear hR' HRm
              go_wp2
              go_step3
              exact ⟨_, ⟨rfl, rfl, rfl⟩, q, [], cmd, cmds, n, HR2.out, Nat.zero_le _, hn, by omega, by omega, rfl, rfl, HF.out⟩
            | false =>
              have HIW : Hid (lineW (s.data.toList.drop q) [] cmd cmds = RES) := by
                have h := HIn.out
                rw [HDr.out, line_word HEn.out hre, ← HDr.out] at h
                exact h
              rw [hre] at hpf
              go_wp2_with fail
              refine HNx.out.mono ?_
              rintro e w1 ⟨rfl, hR'⟩
              have HRm : Hid (Calls Try.prog 16 #[.pointer (some ⟨b, 0, none⟩)] w1 fun e w' => e = .returned (.bool false) ∧ Rd w0 w' b s q [] cmd cmds n) := by
                have h := isRemark_any hR' hs
                rw [hpf] at h
                exact h
              clear hR' HNx hpf hre HIn
              go_wp2_with fail
              refine HRm.out.mono ?_
              rintro e w2 ⟨rfl, hR'⟩
              have HR2 : Hid (Rd w0 w2 b s q [] cmd cmds n) := hR'
              clear hR' HRm
              have HIn := HIW
              clear HIW
              go_wp2_with fail
              go_step3
              have HNw : Hid (Calls Try.prog 13 #[.pointer (some ⟨b, 0, none⟩)] w2 fun e w' => e = .returned (.int .i64 35) ∧ Rd w0 w' b s q [] cmd cmds n) := by
                have h := next_any HR2.out hs
                rw [nextI_lt hqs, HC.out, HK.out] at h
                exact h
              have HQ : Hid (quoteB c = false) := by show _ = _; unfold quoteB; rw [HK.out]; decide
              have HI : Hid (lineW (s.data.toList.drop (q + 1)) ([] ++ [c]) cmd cmds = RES) := by
                have h := HIn.out
                rw [HDr.out, lineW_other HEn.out HQ.out] at h
                exact h
              go_wp2_with fail
              refine HNw.out.mono ?_
              rintro e w5 ⟨rfl, hR'⟩
              have HTk : Hid (Calls Try.prog 19 #[.pointer (some ⟨b, 0, none⟩)] w5 fun e w' => e = .returned (.tuple #[]) ∧ Rd w0 w' b s (q + 1) ([] ++ [c]) cmd cmds n) := by
                have h := take_any hR' hs hqs (by simp only [List.length_nil]; omega)
                rw [HC.out] at h
                exact h
              clear hR' HNw
              go_wp2_with fail
              refine HTk.out.mono ?_
              rintro e w6 ⟨rfl, hR'⟩
              have HR6 : Hid (Rd w0 w6 b s (q + 1) ([] ++ [c]) cmd cmds n) := hR'
              clear hR' HTk
              go_wp2
              go_step3
              exact ⟨_, ⟨rfl, rfl, rfl⟩, (q + 1), ([] ++ [c]), cmd, cmds, n, HR6.out, (by simp only [List.length_append, List.length_singleton, List.length_nil]; omega), hn, by omega, by omega, rfl, HI.out, by omega⟩
          · have HIW : Hid (lineW (s.data.toList.drop q) [] cmd cmds = RES) := by
              have h := HIn.out
              rw [HDr.out, line_word HEn.out (by unfold remB; rw [HK.out, decide_eq_false k35]; rfl), ← HDr.out] at h
              exact h
            have e32 : ((k : Int) == 32) = false := by
              have : (k : Int) ≠ 32 := by omega
              simpa using this
            have e9 : ((k : Int) == 9) = false := by
              have : (k : Int) ≠ 9 := by omega
              simpa using this
            have e59 : ((k : Int) == 59) = false := by
              have : (k : Int) ≠ 59 := by omega
              simpa using this
            have e35 : ((k : Int) == 35) = false := by
              have : (k : Int) ≠ 35 := by omega
              simpa using this
            go_wp2_with fail
            refine HNx.out.mono ?_
            rintro e w1 ⟨rfl, hR'⟩
            have HR2 : Hid (Rd w0 w1 b s q [] cmd cmds n) := hR'
            clear hR' HNx HIn
            have HIn := HIW
            clear HIW e32 e9 e59
            go_wp2_with fail
            go_step3
            have HNw : Hid (Calls Try.prog 13 #[.pointer (some ⟨b, 0, none⟩)] w1 fun e w' => e = .returned (.int .i64 (k : Int)) ∧ Rd w0 w' b s q [] cmd cmds n) := by
              have h := next_any HR2.out hs
              rw [nextI_lt hqs, HC.out, HK.out] at h
              exact h
            by_cases kq : k = 39 ∨ k = 34 ∨ k = 92
            · have HQ : Hid (quoteB c = true) := by show _ = _; unfold quoteB; rw [HK.out]; exact decide_eq_true kq
              obtain ⟨R, hR⟩ : ∃ R, onto [] (pieceF c (s.data.toList.drop (q + 1))) = R := ⟨_, rfl⟩
              have HRR : Hid (onto [] (pieceF c (s.data.toList.drop (q + 1))) = R) := hR
              clear hR
              have e32 : ((k : Int) == 32) = false := by
                have : (k : Int) ≠ 32 := by omega
                simpa using this
              have e9 : ((k : Int) == 9) = false := by
                have : (k : Int) ≠ 9 := by omega
                simpa using this
              have e59 : ((k : Int) == 59) = false := by
                have : (k : Int) ≠ 59 := by omega
                simpa using this
              go_wp2_with fail
              refine HNw.out.mono ?_
              rintro e w5 ⟨rfl, hR'⟩
              have H5 : Hid (Rd w0 w5 b s q [] cmd cmds n) := hR'
              have a1 : w5.cell? ⟨b, 1, none⟩ = some (.int .i64 q) := by
                obtain ⟨ad, buf, vc, vcs, vs, Bc, hP⟩ := hR'
                exact cell_at hP.bld.blk 1
              have HPi : Hid (Calls Try.prog 18 #[.pointer (some ⟨b, 0, none⟩)] w5 (PieceA w0 b s cmd cmds n q R)) := piece_any H5.out hs hqs (by simp only [List.length_nil]; omega) R (by rw [HC.out]; exact HRR.out)
              clear hR' HNw
              rcases kq with rfl | rfl | rfl
              all_goals (
                go_wp2_with fail
                refine HPi.out.mono ?_
                intro e w6 hA
                cases hp : pieceF c (s.data.toList.drop (q + 1)) with
                | none =>
                  have HF : Hid (RES = .inl (s.data.toList.drop q)) := by
                    have h := HIn.out
                    rw [HDr.out, lineW_bad HEn.out HQ.out hp, ← HDr.out] at h
                    exact h.symm
                  have hRn : R = none := by rw [← HRR.out, hp]; rfl
                  subst hRn
                  obtain ⟨rfl, q2, x2, hR2⟩ := hA
                  have HB : Hid (Below w0.heap.size w0 w6) := by
                    obtain ⟨ad, buf, vc, vcs, vs, Bc, hP⟩ := hR2
                    exact hP.below
                  clear hR2 hp HPi H5
                  go_wp2
                  try rw [Exit.noGoto_ret]
                  go_ret2
                  rw [HF.out]
                  refine ⟨?_, HB.out⟩
                  have hlen : (s.data.toList.drop q).length = s.size - q := by rw [List.length_drop, size_data]
                  rw [hlen, show s.size - (s.size - q) = q by omega]
                  rfl
                | some x =>
                  obtain ⟨x1, x2⟩ := x
                  have hRn : R = some ([] ++ x1, x2) := by rw [← HRR.out, hp]; rfl
                  subst hRn
                  obtain ⟨rfl, q2, hR2, hdq, hq2, hlx⟩ := hA
                  have hat2 := hR2.at
                  have HR6 : Hid (Rd w0 w6 b s q2 ([] ++ x1) cmd cmds n) := hR2
                  have HI : Hid (lineW (s.data.toList.drop q2) ([] ++ x1) cmd cmds = RES) := by
                    have h := HIn.out
                    rw [HDr.out, lineW_piece HEn.out HQ.out hp] at h
                    rw [hdq]
                    exact h
                  clear hR2 hp HPi H5 hdq
                  go_wp2
                  go_step3
                  exact ⟨_, ⟨rfl, rfl, rfl⟩, q2, ([] ++ x1), cmd, cmds, n, HR6.out, hlx, hn, by omega, by omega, rfl, HI.out, by omega⟩
            )
            · have HQ : Hid (quoteB c = false) := by show _ = _; unfold quoteB; rw [HK.out]; exact decide_eq_false kq
              have HI : Hid (lineW (s.data.toList.drop (q + 1)) ([] ++ [c]) cmd cmds = RES) := by
                have h := HIn.out
                rw [HDr.out, lineW_other HEn.out HQ.out] at h
                exact h
              have e32 : ((k : Int) == 32) = false := by
                have : (k : Int) ≠ 32 := by omega
                simpa using this
              have e9 : ((k : Int) == 9) = false := by
                have : (k : Int) ≠ 9 := by omega
                simpa using this
              have e59 : ((k : Int) == 59) = false := by
                have : (k : Int) ≠ 59 := by omega
                simpa using this
              have e39 : ((k : Int) == 39) = false := by
                have : (k : Int) ≠ 39 := by omega
                simpa using this
              have e34 : ((k : Int) == 34) = false := by
                have : (k : Int) ≠ 34 := by omega
                simpa using this
              have e92 : ((k : Int) == 92) = false := by
                have : (k : Int) ≠ 92 := by omega
                simpa using this
              go_wp2_with fail
              refine HNw.out.mono ?_
              rintro e w5 ⟨rfl, hR'⟩
              have H5 : Hid (Rd w0 w5 b s q [] cmd cmds n) := hR'
              clear hR' HNw
              have HTk : Hid (Calls Try.prog 19 #[.pointer (some ⟨b, 0, none⟩)] w5 fun e w' => e = .returned (.tuple #[]) ∧ Rd w0 w' b s (q + 1) ([] ++ [c]) cmd cmds n) := by
                have h := take_any H5.out hs hqs (by simp only [List.length_nil]; omega)
                rw [HC.out] at h
                exact h
              go_wp2_with fail
              refine HTk.out.mono ?_
              rintro e w6 ⟨rfl, hR'⟩
              have HR6 : Hid (Rd w0 w6 b s (q + 1) ([] ++ [c]) cmd cmds n) := hR'
              clear hR' HTk H5
              go_wp2
              go_step3
              exact ⟨_, ⟨rfl, rfl, rfl⟩, (q + 1), ([] ++ [c]), cmd, cmds, n, HR6.out, (by simp only [List.length_append, List.length_singleton, List.length_nil]; omega), hn, by omega, by omega, rfl, HI.out, by omega⟩
    · rw [nextI_end hqs] at HNx
      have HF : Hid (RES = .inr (moreC cmd cmds)) := by
        have h := HIn.out
        rw [drop_end s q hqs, line_nil] at h
        exact h.symm
      go_wp2_with fail
      refine HNx.out.mono ?_
      rintro e w1 ⟨rfl, hR'⟩
      have HR1 : Hid (Rd w0 w1 b s q [] cmd cmds n) := hR'
      clear hR' HNx
      go_wp2
      go_step3
      exact ⟨_, ⟨rfl, rfl, rfl⟩, q, [], cmd, cmds, n, HR1.out, Nat.zero_le _, hn, by omega, by omega, rfl, rfl, HF.out⟩
  case p0 =>
    rintro m a wr ⟨⟨hd, hsz, h0⟩, q, l', cmd, cmds, n, hRq, hl', hn, hnq, hcq, rfl, hinv⟩
    obtain ⟨tm, df⟩ := a
    obtain ⟨u0, u1, u2, u3, u4, u5, u6, u7, u8, u9, u10, u11, u12, u13, u14, u15, u16, u17, u18, u19, u20, u21, u22, u23, u24, u25, u26, u27, u28, u29, u30, u31, u32, u33, u34, u35, u36, u37, u38, u39, u40, u41, u42, u43, u44, u45, u46, u47, u48, rfl⟩ := arr49 tm hsz
    simp only [] at hd
    subst hd
    have e0 : u0 = .pointer (some ⟨b, 0, none⟩) := by simpa using h0
    subst e0
    have hat := hRq.at
    clear h0 hsz HR0 HI0
    obtain ⟨rfl, hF⟩ := hinv
    have HF : Hid (RES = .inr (moreC cmd cmds)) := hF
    have hmc := more_count cmd cmds
    have HEc : Hid (Calls Try.prog 15 #[.pointer (some ⟨b, 0, none⟩)] wr fun e w' => e = .returned (.tuple #[]) ∧ Rd w0 w' b s q [] [] (moreC cmd cmds) n) := endCommand_any hRq (by omega) (by omega)
    clear hRq hF
    go_wp2_with fail
    refine HEc.out.mono ?_
    rintro e w3 ⟨rfl, hR'⟩
    have HR3 : Hid (Rd w0 w3 b s q [] [] (moreC cmd cmds) n) := hR'
    clear hR' HEc
    go_wp2
    try rw [Exit.noGoto_ret]
    go_ret2
    rw [HF.out]
    exact ⟨rfl, q, n, HR3.out, by rw [hmc]; exact hn⟩
  case p1 =>
    rintro m a wr ⟨⟨hd, hsz, h0⟩, q, l', cmd, cmds, n, hRq, hl', hn, hnq, hcq, rfl, hinv⟩
    obtain ⟨tm, df⟩ := a
    obtain ⟨u0, u1, u2, u3, u4, u5, u6, u7, u8, u9, u10, u11, u12, u13, u14, u15, u16, u17, u18, u19, u20, u21, u22, u23, u24, u25, u26, u27, u28, u29, u30, u31, u32, u33, u34, u35, u36, u37, u38, u39, u40, u41, u42, u43, u44, u45, u46, u47, u48, rfl⟩ := arr49 tm hsz
    simp only [] at hd
    subst hd
    have e0 : u0 = .pointer (some ⟨b, 0, none⟩) := by simpa using h0
    subst e0
    have hat := hRq.at
    clear h0 hsz HR0 HI0
    obtain ⟨rfl, hI⟩ := hinv
    have HIn : Hid (lineF (s.data.toList.drop q) cmd cmds = RES) := hI
    clear hI hl'
    have HNx : Hid (Calls Try.prog 13 #[.pointer (some ⟨b, 0, none⟩)] wr fun e w' => e = .returned (.int .i64 (nextI s q)) ∧ Rd w0 w' b s q [] cmd cmds n) := next_any hRq hs
    clear hRq
    by_cases hqs : q < s.size
    · rw [nextI_lt hqs] at HNx
      obtain ⟨c, hc⟩ : ∃ c, s[q] = c := ⟨_, rfl⟩
      have HC : Hid (s[q] = c) := hc
      obtain ⟨k, hk⟩ : ∃ k, c.toNat = k := ⟨_, rfl⟩
      have HK : Hid (c.toNat = k) := hk
      have HDr : Hid (s.data.toList.drop q = c :: s.data.toList.drop (q + 1)) := by rw [← hc]; exact drop_at s q hqs
      have hk256 := UInt8.toNat_lt c
      rw [hk] at hk256
      have kn1 : ((k : Int) == -1) = false := by simp
      rw [hc, hk] at HNx
      clear hc hk
      by_cases kb : k = 32 ∨ k = 9
      · have HI : Hid (lineF (s.data.toList.drop (q + 1)) cmd cmds = RES) := by
          have h := HIn.out
          rw [HDr.out, line_blank (by unfold blankB; rw [HK.out]; exact decide_eq_true kb)] at h
          exact h
        go_wp2_with fail
        refine HNx.out.mono ?_
        rintro e w1 ⟨rfl, hR'⟩
        have HSk : Hid (Calls Try.prog 14 #[.pointer (some ⟨b, 0, none⟩)] w1 fun e w' => e = .returned (.int .i64 (s[q].toNat : Int)) ∧ Rd w0 w' b s (q + 1) [] cmd cmds n) := skip_any hR' hs hqs
        clear hR' HNx
        rcases kb with rfl | rfl
        all_goals (
          go_wp2_with fail
          refine HSk.out.mono ?_
          rintro e w2 ⟨rfl, hR'⟩
          have HR2 : Hid (Rd w0 w2 b s (q + 1) [] cmd cmds n) := hR'
          clear hR' HSk
          go_wp2
          go_step3
          exact ⟨_, (by show 2 * (s.size - (q + 1)) + 1 < 2 * (s.size - q) + 1; omega), ⟨rfl, rfl, rfl⟩, (q + 1), [], cmd, cmds, n, HR2.out, Nat.zero_le _, hn, by omega, by omega, rfl, rfl, HI.out⟩
    )
      · by_cases k59 : k = 59
        · subst k59
          have HI : Hid (lineF (s.data.toList.drop (q + 1)) [] (moreC cmd cmds) = RES) := by
            have h := HIn.out
            rw [HDr.out, line_semi HK.out] at h
            exact h
          have hmc := more_count cmd cmds
          have hml := more_len cmd cmds
          go_wp2_with fail
          refine HNx.out.mono ?_
          rintro e w1 ⟨rfl, hR'⟩
          have HSk : Hid (Calls Try.prog 14 #[.pointer (some ⟨b, 0, none⟩)] w1 fun e w' => e = .returned (.int .i64 (s[q].toNat : Int)) ∧ Rd w0 w' b s (q + 1) [] cmd cmds n) := skip_any hR' hs hqs
          clear hR' HNx
          go_wp2_with fail
          refine HSk.out.mono ?_
          rintro e w2 ⟨rfl, hR'⟩
          have HEc : Hid (Calls Try.prog 15 #[.pointer (some ⟨b, 0, none⟩)] w2 fun e w' => e = .returned (.tuple #[]) ∧ Rd w0 w' b s (q + 1) [] [] (moreC cmd cmds) n) := endCommand_any hR' (by omega) (by omega)
          clear hR' HSk
          go_wp2_with fail
          refine HEc.out.mono ?_
          rintro e w3 ⟨rfl, hR'⟩
          have HR3 : Hid (Rd w0 w3 b s (q + 1) [] [] (moreC cmd cmds) n) := hR'
          clear hR' HEc
          go_wp2
          go_step3
          exact ⟨_, (by show 2 * (s.size - (q + 1)) + 1 < 2 * (s.size - q) + 1; omega), ⟨rfl, rfl, rfl⟩, (q + 1), [], [], (moreC cmd cmds), n, HR3.out, Nat.zero_le _, (by rw [hmc]; simpa using hn), by omega, by omega, rfl, rfl, HI.out⟩
        · have HEn : Hid (endB c = false) := by
            show _ = _
            unfold endB blankB
            rw [HK.out, decide_eq_false kb, decide_eq_false k59]
            rfl
          by_cases k35 : k = 35
          · subst k35
            have hpf := prefix_rem c (s.data.toList.drop (q + 1)) HK.out
            rw [← HDr.out] at hpf
            cases hre : remB c (s.data.toList.drop (q + 1)) with
            | true =>
              have HF : Hid (RES = .inr (moreC cmd cmds)) := by
                have h := HIn.out
                rw [HDr.out, line_rem hre HK.out] at h
                exact h.symm
              rw [hre] at hpf
              go_wp2_with fail
              refine HNx.out.mono ?_
              rintro e w1 ⟨rfl, hR'⟩
              have HRm : Hid (Calls Try.prog 16 #[.pointer (some ⟨b, 0, none⟩)] w1 fun e w' => e = .returned (.bool true) ∧ Rd w0 w' b s q [] cmd cmds n) := by
                have h := isRemark_any hR' hs
                rw [hpf] at h
                exact h
              clear hR' HNx hpf hre
              go_wp2_with fail
              refine HRm.out.mono ?_
              rintro e w2 ⟨rfl, hR'⟩
              have HR2 : Hid (Rd w0 w2 b s q [] cmd cmds n) := hR'
              clear hR' HRm
              go_wp2
              go_step3
              exact ⟨_, (by show 0 < 2 * (s.size - q) + 1; omega), ⟨rfl, rfl, rfl⟩, q, [], cmd, cmds, n, HR2.out, Nat.zero_le _, hn, by omega, by omega, rfl, rfl, HF.out⟩
            | false =>
              have HIW : Hid (lineW (s.data.toList.drop q) [] cmd cmds = RES) := by
                have h := HIn.out
                rw [HDr.out, line_word HEn.out hre, ← HDr.out] at h
                exact h
              rw [hre] at hpf
              go_wp2_with fail
              refine HNx.out.mono ?_
              rintro e w1 ⟨rfl, hR'⟩
              have HRm : Hid (Calls Try.prog 16 #[.pointer (some ⟨b, 0, none⟩)] w1 fun e w' => e = .returned (.bool false) ∧ Rd w0 w' b s q [] cmd cmds n) := by
                have h := isRemark_any hR' hs
                rw [hpf] at h
                exact h
              clear hR' HNx hpf hre HIn
              go_wp2_with fail
              refine HRm.out.mono ?_
              rintro e w2 ⟨rfl, hR'⟩
              have HR2 : Hid (Rd w0 w2 b s q [] cmd cmds n) := hR'
              clear hR' HRm
              have HIn := HIW
              clear HIW
              go_wp2_with fail
              go_step3
              have HNw : Hid (Calls Try.prog 13 #[.pointer (some ⟨b, 0, none⟩)] w2 fun e w' => e = .returned (.int .i64 35) ∧ Rd w0 w' b s q [] cmd cmds n) := by
                have h := next_any HR2.out hs
                rw [nextI_lt hqs, HC.out, HK.out] at h
                exact h
              have HQ : Hid (quoteB c = false) := by show _ = _; unfold quoteB; rw [HK.out]; decide
              have HI : Hid (lineW (s.data.toList.drop (q + 1)) ([] ++ [c]) cmd cmds = RES) := by
                have h := HIn.out
                rw [HDr.out, lineW_other HEn.out HQ.out] at h
                exact h
              go_wp2_with fail
              refine HNw.out.mono ?_
              rintro e w5 ⟨rfl, hR'⟩
              have HTk : Hid (Calls Try.prog 19 #[.pointer (some ⟨b, 0, none⟩)] w5 fun e w' => e = .returned (.tuple #[]) ∧ Rd w0 w' b s (q + 1) ([] ++ [c]) cmd cmds n) := by
                have h := take_any hR' hs hqs (by simp only [List.length_nil]; omega)
                rw [HC.out] at h
                exact h
              clear hR' HNw
              go_wp2_with fail
              refine HTk.out.mono ?_
              rintro e w6 ⟨rfl, hR'⟩
              have HR6 : Hid (Rd w0 w6 b s (q + 1) ([] ++ [c]) cmd cmds n) := hR'
              clear hR' HTk
              go_wp2
              go_step3
              exact ⟨_, (by show 2 * (s.size - (q + 1)) + 2 < 2 * (s.size - q) + 1; omega), ⟨rfl, rfl, rfl⟩, (q + 1), ([] ++ [c]), cmd, cmds, n, HR6.out, (by simp only [List.length_append, List.length_singleton, List.length_nil]; omega), hn, by omega, by omega, rfl, HI.out, by omega⟩
          · have HIW : Hid (lineW (s.data.toList.drop q) [] cmd cmds = RES) := by
              have h := HIn.out
              rw [HDr.out, line_word HEn.out (by unfold remB; rw [HK.out, decide_eq_false k35]; rfl), ← HDr.out] at h
              exact h
            have e32 : ((k : Int) == 32) = false := by
              have : (k : Int) ≠ 32 := by omega
              simpa using this
            have e9 : ((k : Int) == 9) = false := by
              have : (k : Int) ≠ 9 := by omega
              simpa using this
            have e59 : ((k : Int) == 59) = false := by
              have : (k : Int) ≠ 59 := by omega
              simpa using this
            have e35 : ((k : Int) == 35) = false := by
              have : (k : Int) ≠ 35 := by omega
              simpa using this
            go_wp2_with fail
            refine HNx.out.mono ?_
            rintro e w1 ⟨rfl, hR'⟩
            have HR2 : Hid (Rd w0 w1 b s q [] cmd cmds n) := hR'
            clear hR' HNx HIn
            have HIn := HIW
            clear HIW e32 e9 e59
            go_wp2_with fail
            go_step3
            have HNw : Hid (Calls Try.prog 13 #[.pointer (some ⟨b, 0, none⟩)] w1 fun e w' => e = .returned (.int .i64 (k : Int)) ∧ Rd w0 w' b s q [] cmd cmds n) := by
              have h := next_any HR2.out hs
              rw [nextI_lt hqs, HC.out, HK.out] at h
              exact h
            by_cases kq : k = 39 ∨ k = 34 ∨ k = 92
            · have HQ : Hid (quoteB c = true) := by show _ = _; unfold quoteB; rw [HK.out]; exact decide_eq_true kq
              obtain ⟨R, hR⟩ : ∃ R, onto [] (pieceF c (s.data.toList.drop (q + 1))) = R := ⟨_, rfl⟩
              have HRR : Hid (onto [] (pieceF c (s.data.toList.drop (q + 1))) = R) := hR
              clear hR
              have e32 : ((k : Int) == 32) = false := by
                have : (k : Int) ≠ 32 := by omega
                simpa using this
              have e9 : ((k : Int) == 9) = false := by
                have : (k : Int) ≠ 9 := by omega
                simpa using this
              have e59 : ((k : Int) == 59) = false := by
                have : (k : Int) ≠ 59 := by omega
                simpa using this
              go_wp2_with fail
              refine HNw.out.mono ?_
              rintro e w5 ⟨rfl, hR'⟩
              have H5 : Hid (Rd w0 w5 b s q [] cmd cmds n) := hR'
              have a1 : w5.cell? ⟨b, 1, none⟩ = some (.int .i64 q) := by
                obtain ⟨ad, buf, vc, vcs, vs, Bc, hP⟩ := hR'
                exact cell_at hP.bld.blk 1
              have HPi : Hid (Calls Try.prog 18 #[.pointer (some ⟨b, 0, none⟩)] w5 (PieceA w0 b s cmd cmds n q R)) := piece_any H5.out hs hqs (by simp only [List.length_nil]; omega) R (by rw [HC.out]; exact HRR.out)
              clear hR' HNw
              rcases kq with rfl | rfl | rfl
              all_goals (
                go_wp2_with fail
                refine HPi.out.mono ?_
                intro e w6 hA
                cases hp : pieceF c (s.data.toList.drop (q + 1)) with
                | none =>
                  have HF : Hid (RES = .inl (s.data.toList.drop q)) := by
                    have h := HIn.out
                    rw [HDr.out, lineW_bad HEn.out HQ.out hp, ← HDr.out] at h
                    exact h.symm
                  have hRn : R = none := by rw [← HRR.out, hp]; rfl
                  subst hRn
                  obtain ⟨rfl, q2, x2, hR2⟩ := hA
                  have HB : Hid (Below w0.heap.size w0 w6) := by
                    obtain ⟨ad, buf, vc, vcs, vs, Bc, hP⟩ := hR2
                    exact hP.below
                  clear hR2 hp HPi H5
                  go_wp2
                  try rw [Exit.noGoto_ret]
                  go_ret2
                  rw [HF.out]
                  refine ⟨?_, HB.out⟩
                  have hlen : (s.data.toList.drop q).length = s.size - q := by rw [List.length_drop, size_data]
                  rw [hlen, show s.size - (s.size - q) = q by omega]
                  rfl
                | some x =>
                  obtain ⟨x1, x2⟩ := x
                  have hRn : R = some ([] ++ x1, x2) := by rw [← HRR.out, hp]; rfl
                  subst hRn
                  obtain ⟨rfl, q2, hR2, hdq, hq2, hlx⟩ := hA
                  have hat2 := hR2.at
                  have HR6 : Hid (Rd w0 w6 b s q2 ([] ++ x1) cmd cmds n) := hR2
                  have HI : Hid (lineW (s.data.toList.drop q2) ([] ++ x1) cmd cmds = RES) := by
                    have h := HIn.out
                    rw [HDr.out, lineW_piece HEn.out HQ.out hp] at h
                    rw [hdq]
                    exact h
                  clear hR2 hp HPi H5 hdq
                  go_wp2
                  go_step3
                  exact ⟨_, (by show 2 * (s.size - q2) + 2 < 2 * (s.size - q) + 1; omega), ⟨rfl, rfl, rfl⟩, q2, ([] ++ x1), cmd, cmds, n, HR6.out, hlx, hn, by omega, by omega, rfl, HI.out, by omega⟩
            )
            · have HQ : Hid (quoteB c = false) := by show _ = _; unfold quoteB; rw [HK.out]; exact decide_eq_false kq
              have HI : Hid (lineW (s.data.toList.drop (q + 1)) ([] ++ [c]) cmd cmds = RES) := by
                have h := HIn.out
                rw [HDr.out, lineW_other HEn.out HQ.out] at h
                exact h
              have e32 : ((k : Int) == 32) = false := by
                have : (k : Int) ≠ 32 := by omega
                simpa using this
              have e9 : ((k : Int) == 9) = false := by
                have : (k : Int) ≠ 9 := by omega
                simpa using this
              have e59 : ((k : Int) == 59) = false := by
                have : (k : Int) ≠ 59 := by omega
                simpa using this
              have e39 : ((k : Int) == 39) = false := by
                have : (k : Int) ≠ 39 := by omega
                simpa using this
              have e34 : ((k : Int) == 34) = false := by
                have : (k : Int) ≠ 34 := by omega
                simpa using this
              have e92 : ((k : Int) == 92) = false := by
                have : (k : Int) ≠ 92 := by omega
                simpa using this
              go_wp2_with fail
              refine HNw.out.mono ?_
              rintro e w5 ⟨rfl, hR'⟩
              have H5 : Hid (Rd w0 w5 b s q [] cmd cmds n) := hR'
              clear hR' HNw
              have HTk : Hid (Calls Try.prog 19 #[.pointer (some ⟨b, 0, none⟩)] w5 fun e w' => e = .returned (.tuple #[]) ∧ Rd w0 w' b s (q + 1) ([] ++ [c]) cmd cmds n) := by
                have h := take_any H5.out hs hqs (by simp only [List.length_nil]; omega)
                rw [HC.out] at h
                exact h
              go_wp2_with fail
              refine HTk.out.mono ?_
              rintro e w6 ⟨rfl, hR'⟩
              have HR6 : Hid (Rd w0 w6 b s (q + 1) ([] ++ [c]) cmd cmds n) := hR'
              clear hR' HTk H5
              go_wp2
              go_step3
              exact ⟨_, (by show 2 * (s.size - (q + 1)) + 2 < 2 * (s.size - q) + 1; omega), ⟨rfl, rfl, rfl⟩, (q + 1), ([] ++ [c]), cmd, cmds, n, HR6.out, (by simp only [List.length_append, List.length_singleton, List.length_nil]; omega), hn, by omega, by omega, rfl, HI.out, by omega⟩
    · rw [nextI_end hqs] at HNx
      have HF : Hid (RES = .inr (moreC cmd cmds)) := by
        have h := HIn.out
        rw [drop_end s q hqs, line_nil] at h
        exact h.symm
      go_wp2_with fail
      refine HNx.out.mono ?_
      rintro e w1 ⟨rfl, hR'⟩
      have HR1 : Hid (Rd w0 w1 b s q [] cmd cmds n) := hR'
      clear hR' HNx
      go_wp2
      go_step3
      exact ⟨_, (by show 0 < 2 * (s.size - q) + 1; omega), ⟨rfl, rfl, rfl⟩, q, [], cmd, cmds, n, HR1.out, Nat.zero_le _, hn, by omega, by omega, rfl, rfl, HF.out⟩
  case p2 =>
    rintro m a wr ⟨⟨hd, hsz, h0⟩, q, l', cmd, cmds, n, hRq, hl', hn, hnq, hcq, rfl, hinv⟩
    obtain ⟨tm, df⟩ := a
    obtain ⟨u0, u1, u2, u3, u4, u5, u6, u7, u8, u9, u10, u11, u12, u13, u14, u15, u16, u17, u18, u19, u20, u21, u22, u23, u24, u25, u26, u27, u28, u29, u30, u31, u32, u33, u34, u35, u36, u37, u38, u39, u40, u41, u42, u43, u44, u45, u46, u47, u48, rfl⟩ := arr49 tm hsz
    simp only [] at hd
    subst hd
    have e0 : u0 = .pointer (some ⟨b, 0, none⟩) := by simpa using h0
    subst e0
    have hat := hRq.at
    clear h0 hsz HR0 HI0
    obtain ⟨hI, hn1⟩ := hinv
    have HIn : Hid (lineW (s.data.toList.drop q) l' cmd cmds = RES) := hI
    have HRq : Hid (Rd w0 wr b s q l' cmd cmds n) := hRq
    have hn2 : n + 1 = wcount cmds + (cmd ++ [l']).length := by rw [List.length_append, List.length_singleton]; omega
    clear hI hRq
    by_cases hqs : q < s.size
    · obtain ⟨c, hc⟩ : ∃ c, s[q] = c := ⟨_, rfl⟩
      have HC : Hid (s[q] = c) := hc
      obtain ⟨k, hk⟩ : ∃ k, c.toNat = k := ⟨_, rfl⟩
      have HK : Hid (c.toNat = k) := hk
      have HDr : Hid (s.data.toList.drop q = c :: s.data.toList.drop (q + 1)) := by rw [← hc]; exact drop_at s q hqs
      have hk256 := UInt8.toNat_lt c
      rw [hk] at hk256
      have kn1 : ((k : Int) == -1) = false := by simp
      clear hc hk
      by_cases kb : (k = 32 ∨ k = 9) ∨ k = 59
      · have HI : Hid (lineF (s.data.toList.drop q) (cmd ++ [l']) cmds = RES) := by
          have h := HIn.out
          rw [HDr.out, lineW_end (by unfold endB blankB; rw [HK.out]; rcases kb with h | h; · rw [decide_eq_true h]; rfl
                                     · rw [decide_eq_true h, Bool.or_true])] at h
          rw [HDr.out]
          exact h
        have HNw : Hid (Calls Try.prog 13 #[.pointer (some ⟨b, 0, none⟩)] wr fun e w' => e = .returned (.int .i64 (k : Int)) ∧ Rd w0 w' b s q l' cmd cmds n) := by
          have h := next_any HRq.out hs
          rw [nextI_lt hqs, HC.out, HK.out] at h
          exact h
        go_wp2_with fail
        refine HNw.out.mono ?_
        rintro e w5 ⟨rfl, hR'⟩
        have HEw : Hid (Calls Try.prog 17 #[.pointer (some ⟨b, 0, none⟩)] w5 fun e w' => e = .returned (.tuple #[]) ∧ Rd w0 w' b s q [] (cmd ++ [l']) cmds (n + 1)) := endWord_any hR' (by omega) (by omega)
        clear hR' HNw
        rcases kb with (rfl | rfl) | rfl
        all_goals (
          go_wp2_with fail
          refine HEw.out.mono ?_
          rintro e w6 ⟨rfl, hR'⟩
          have HR6 : Hid (Rd w0 w6 b s q [] (cmd ++ [l']) cmds (n + 1)) := hR'
          clear hR' HEw
          go_wp2
          go_step3
          exact ⟨_, (by show 2 * (s.size - q) + 1 < 2 * (s.size - q) + 2; omega), ⟨rfl, rfl, rfl⟩, q, [], (cmd ++ [l']), cmds, (n + 1), HR6.out, Nat.zero_le _, hn2, by omega, by omega, rfl, rfl, HI.out⟩
    )
      · have HEn : Hid (endB c = false) := by
          show _ = _
          unfold endB blankB
          rw [HK.out, decide_eq_false (fun h => kb (.inl h)), decide_eq_false (fun h => kb (.inr h))]
          rfl
        have k32 : k ≠ 32 := fun h => kb (.inl (.inl h))
        have k9 : k ≠ 9 := fun h => kb (.inl (.inr h))
        have k59 : k ≠ 59 := fun h => kb (.inr h)
        clear kb
        have HNw : Hid (Calls Try.prog 13 #[.pointer (some ⟨b, 0, none⟩)] wr fun e w' => e = .returned (.int .i64 (k : Int)) ∧ Rd w0 w' b s q l' cmd cmds n) := by
          have h := next_any HRq.out hs
          rw [nextI_lt hqs, HC.out, HK.out] at h
          exact h
        by_cases kq : k = 39 ∨ k = 34 ∨ k = 92
        · have HQ : Hid (quoteB c = true) := by show _ = _; unfold quoteB; rw [HK.out]; exact decide_eq_true kq
          obtain ⟨R, hR⟩ : ∃ R, onto l' (pieceF c (s.data.toList.drop (q + 1))) = R := ⟨_, rfl⟩
          have HRR : Hid (onto l' (pieceF c (s.data.toList.drop (q + 1))) = R) := hR
          clear hR
          have e32 : ((k : Int) == 32) = false := by
            have : (k : Int) ≠ 32 := by omega
            simpa using this
          have e9 : ((k : Int) == 9) = false := by
            have : (k : Int) ≠ 9 := by omega
            simpa using this
          have e59 : ((k : Int) == 59) = false := by
            have : (k : Int) ≠ 59 := by omega
            simpa using this
          go_wp2_with fail
          refine HNw.out.mono ?_
          rintro e w5 ⟨rfl, hR'⟩
          have H5 : Hid (Rd w0 w5 b s q l' cmd cmds n) := hR'
          have a1 : w5.cell? ⟨b, 1, none⟩ = some (.int .i64 q) := by
            obtain ⟨ad, buf, vc, vcs, vs, Bc, hP⟩ := hR'
            exact cell_at hP.bld.blk 1
          have HPi : Hid (Calls Try.prog 18 #[.pointer (some ⟨b, 0, none⟩)] w5 (PieceA w0 b s cmd cmds n q R)) := piece_any H5.out hs hqs (by omega) R (by rw [HC.out]; exact HRR.out)
          clear hR' HNw
          rcases kq with rfl | rfl | rfl
          all_goals (
            go_wp2_with fail
            refine HPi.out.mono ?_
            intro e w6 hA
            cases hp : pieceF c (s.data.toList.drop (q + 1)) with
            | none =>
              have HF : Hid (RES = .inl (s.data.toList.drop q)) := by
                have h := HIn.out
                rw [HDr.out, lineW_bad HEn.out HQ.out hp, ← HDr.out] at h
                exact h.symm
              have hRn : R = none := by rw [← HRR.out, hp]; rfl
              subst hRn
              obtain ⟨rfl, q2, x2, hR2⟩ := hA
              have HB : Hid (Below w0.heap.size w0 w6) := by
                obtain ⟨ad, buf, vc, vcs, vs, Bc, hP⟩ := hR2
                exact hP.below
              clear hR2 hp HPi H5
              go_wp2
              try rw [Exit.noGoto_ret]
              go_ret2
              rw [HF.out]
              refine ⟨?_, HB.out⟩
              have hlen : (s.data.toList.drop q).length = s.size - q := by rw [List.length_drop, size_data]
              rw [hlen, show s.size - (s.size - q) = q by omega]
              rfl
            | some x =>
              obtain ⟨x1, x2⟩ := x
              have hRn : R = some (l' ++ x1, x2) := by rw [← HRR.out, hp]; rfl
              subst hRn
              obtain ⟨rfl, q2, hR2, hdq, hq2, hlx⟩ := hA
              have hat2 := hR2.at
              have HR6 : Hid (Rd w0 w6 b s q2 (l' ++ x1) cmd cmds n) := hR2
              have HI : Hid (lineW (s.data.toList.drop q2) (l' ++ x1) cmd cmds = RES) := by
                have h := HIn.out
                rw [HDr.out, lineW_piece HEn.out HQ.out hp] at h
                rw [hdq]
                exact h
              clear hR2 hp HPi H5 hdq
              go_wp2
              go_step3
              exact ⟨_, (by show 2 * (s.size - q2) + 2 < 2 * (s.size - q) + 2; omega), ⟨rfl, rfl, rfl⟩, q2, (l' ++ x1), cmd, cmds, n, HR6.out, hlx, hn, by omega, by omega, rfl, HI.out, by omega⟩
        )
        · have HQ : Hid (quoteB c = false) := by show _ = _; unfold quoteB; rw [HK.out]; exact decide_eq_false kq
          have HI : Hid (lineW (s.data.toList.drop (q + 1)) (l' ++ [c]) cmd cmds = RES) := by
            have h := HIn.out
            rw [HDr.out, lineW_other HEn.out HQ.out] at h
            exact h
          have e32 : ((k : Int) == 32) = false := by
            have : (k : Int) ≠ 32 := by omega
            simpa using this
          have e9 : ((k : Int) == 9) = false := by
            have : (k : Int) ≠ 9 := by omega
            simpa using this
          have e59 : ((k : Int) == 59) = false := by
            have : (k : Int) ≠ 59 := by omega
            simpa using this
          have e39 : ((k : Int) == 39) = false := by
            have : (k : Int) ≠ 39 := by omega
            simpa using this
          have e34 : ((k : Int) == 34) = false := by
            have : (k : Int) ≠ 34 := by omega
            simpa using this
          have e92 : ((k : Int) == 92) = false := by
            have : (k : Int) ≠ 92 := by omega
            simpa using this
          go_wp2_with fail
          refine HNw.out.mono ?_
          rintro e w5 ⟨rfl, hR'⟩
          have H5 : Hid (Rd w0 w5 b s q l' cmd cmds n) := hR'
          clear hR' HNw
          have HTk : Hid (Calls Try.prog 19 #[.pointer (some ⟨b, 0, none⟩)] w5 fun e w' => e = .returned (.tuple #[]) ∧ Rd w0 w' b s (q + 1) (l' ++ [c]) cmd cmds n) := by
            have h := take_any H5.out hs hqs (by omega)
            rw [HC.out] at h
            exact h
          go_wp2_with fail
          refine HTk.out.mono ?_
          rintro e w6 ⟨rfl, hR'⟩
          have HR6 : Hid (Rd w0 w6 b s (q + 1) (l' ++ [c]) cmd cmds n) := hR'
          clear hR' HTk H5
          go_wp2
          go_step3
          exact ⟨_, (by show 2 * (s.size - (q + 1)) + 2 < 2 * (s.size - q) + 2; omega), ⟨rfl, rfl, rfl⟩, (q + 1), (l' ++ [c]), cmd, cmds, n, HR6.out, (by rw [List.length_append, List.length_singleton]; omega), hn, by omega, by omega, rfl, HI.out, by omega⟩
    · have HI : Hid (lineF (s.data.toList.drop q) (cmd ++ [l']) cmds = RES) := by
        have h := HIn.out
        rw [drop_end s q hqs, lineW_nil] at h
        rw [drop_end s q hqs]
        exact h
      have HNw : Hid (Calls Try.prog 13 #[.pointer (some ⟨b, 0, none⟩)] wr fun e w' => e = .returned (.int .i64 (-1)) ∧ Rd w0 w' b s q l' cmd cmds n) := by
        have h := next_any HRq.out hs
        rw [nextI_end hqs] at h
        exact h
      go_wp2_with fail
      refine HNw.out.mono ?_
      rintro e w5 ⟨rfl, hR'⟩
      have HEw : Hid (Calls Try.prog 17 #[.pointer (some ⟨b, 0, none⟩)] w5 fun e w' => e = .returned (.tuple #[]) ∧ Rd w0 w' b s q [] (cmd ++ [l']) cmds (n + 1)) := endWord_any hR' (by omega) (by omega)
      clear hR' HNw
      go_wp2_with fail
      refine HEw.out.mono ?_
      rintro e w6 ⟨rfl, hR'⟩
      have HR6 : Hid (Rd w0 w6 b s q [] (cmd ++ [l']) cmds (n + 1)) := hR'
      clear hR' HEw
      go_wp2
      go_step3
      exact ⟨_, (by show 2 * (s.size - q) + 1 < 2 * (s.size - q) + 2; omega), ⟨rfl, rfl, rfl⟩, q, [], (cmd ++ [l']), cmds, (n + 1), HR6.out, Nat.zero_le _, hn2, by omega, by omega, rfl, rfl, HI.out⟩

end Go.Proofs.Ytghkhnnlhkdceaa
