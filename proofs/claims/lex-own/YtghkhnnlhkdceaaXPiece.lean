/-
  Lines of commands: the machine of a piece (mkpiece.py).
-/
import Derived.Test.YtghkhnnlhkdceaaXSpec
namespace Go.Proofs.Ytghkhnnlhkdceaa
open Go.RowKit
set_option linter.unusedVariables false
set_option maxRecDepth 100000

theorem Rd.at {w0 w : World} {b : Nat} {s : ByteArray} {p : Nat} {l : List UInt8} {cmd : List (List UInt8)} {cmds : List (List (List UInt8))} {n : Nat} (h : Rd w0 w b s p l cmd cmds n) : p ≤ s.size := by
  obtain ⟨ad, buf, vc, vcs, vs, Bc, hP⟩ := h
  exact hP.at_
def PieceA (w0 : World) (b : Nat) (s : ByteArray) (cmd : List (List UInt8)) (cmds : List (List (List UInt8))) (n p : Nat) (R : Option (List UInt8 × List UInt8)) (e : Ending) (w' : World) : Prop := match R with
  | some (x, t) => e = .returned (.bool true) ∧ ∃ q, Rd w0 w' b s q x cmd cmds n ∧ s.data.toList.drop q = t ∧ p < q ∧ x.length ≤ q
  | none => e = .returned (.bool false) ∧ ∃ q x, Rd w0 w' b s q x cmd cmds n
def Fr (k b : Nat) (a : Act) : Prop := a.defers = [] ∧ a.tmps.size = k ∧ a.tmps[0]? = some (.pointer (some ⟨b, 0, none⟩)) ∧ a.tmps[2]? = some (.bool false)
def pinv (R : Option (List UInt8 × List UInt8)) (lab : Nat) (l r : List UInt8) : Prop := match lab with
  | 0 => onto l (singleF r) = R
  | 1 => onto l (doubleF r) = R
  | 2 => onto l (bareF r) = R
  | 3 => R = none
  | 4 => onto l (escD r) = R
  | _ => False
def pmeas (lab : Nat) (s : ByteArray) (q : Nat) : Nat := if lab = 3 then 0 else 1 + (s.size - q)
def PJ (w0 : World) (b : Nat) (s : ByteArray) (cmd : List (List UInt8)) (cmds : List (List (List UInt8))) (n p : Nat) (R : Option (List UInt8 × List UInt8)) (lab m : Nat) (a : Act) (w : World) : Prop := Fr 43 b a ∧ ∃ q l', Rd w0 w b s q l' cmd cmds n ∧ p < q ∧ l'.length ≤ q ∧ m = pmeas lab s q ∧ pinv R lab l' (s.data.toList.drop q)

set_option maxHeartbeats 8000000 in
theorem piece_any {w0 w : World} {b : Nat} {s : ByteArray} {p : Nat} {l : List UInt8} {cmd : List (List UInt8)} {cmds : List (List (List UInt8))} {n : Nat} (h : Rd w0 w b s p l cmd cmds n) (hs : s.size ≤ 8192) (hlt : p < s.size) (hl : l.length ≤ p) (R : Option (List UInt8 × List UInt8)) (hR : onto l (pieceF s[p] (s.data.toList.drop (p + 1))) = R) :
    Calls Try.prog 18 #[.pointer (some ⟨b, 0, none⟩)] w (PieceA w0 b s cmd cmds n p R) := by
  have HSk : Hid (Calls Try.prog 14 #[.pointer (some ⟨b, 0, none⟩)] w fun e w' => e = .returned (.int .i64 (s[p].toNat : Int)) ∧ Rd w0 w' b s (p + 1) l cmd cmds n) := skip_any h hs hlt
  obtain ⟨c, hc⟩ : ∃ c, s[p] = c := ⟨_, rfl⟩
  rw [hc] at HSk hR
  have HPi : Hid (onto l (pieceF c (s.data.toList.drop (p + 1))) = R) := hR
  obtain ⟨k, hk⟩ : ∃ k, c.toNat = k := ⟨_, rfl⟩
  rw [hk] at HSk
  have HK : Hid (c.toNat = k) := hk
  clear h hR hc hk
  go_enter Try.func18, Try.ntmps18
  go_wp2
  refine wp_scope_5 (PJ w0 b s cmd cmds n p R) rfl rfl rfl rfl rfl ?hJ ?first ?p0 ?p1 ?p2 ?p3 ?p4
  case hJ =>
    rintro lab m a wr ⟨_, q, l', _, _, _, _, hinv⟩
    match lab, hinv with
    | 0, _ => decide
    | 1, _ => decide
    | 2, _ => decide
    | 3, _ => decide
    | 4, _ => decide
  case first =>
    go_wp2_with fail
    refine HSk.out.mono ?_
    rintro e w1 ⟨rfl, hR1⟩
    have HR1 : Hid (Rd w0 w1 b s (p + 1) l cmd cmds n) := hR1
    clear hR1 HSk
    by_cases k39 : k = 39
    · subst k39
      have HI : Hid (pinv R 0 l (s.data.toList.drop (p + 1))) := by
        have h := HPi.out
        unfold pieceF at h
        rw [if_pos HK.out] at h
        exact h
      go_wp2
      go_step3
      exact ⟨_, ⟨rfl, rfl, rfl, rfl⟩, _, _, HR1.out, by omega, by omega, rfl, HI.out⟩
    · by_cases k34 : k = 34
      · subst k34
        have HI : Hid (pinv R 1 l (s.data.toList.drop (p + 1))) := by
          have h := HPi.out
          unfold pieceF at h
          rw [if_neg (by rw [HK.out]; exact k39), if_pos HK.out] at h
          exact h
        go_wp2
        go_step3
        exact ⟨_, ⟨rfl, rfl, rfl, rfl⟩, _, _, HR1.out, by omega, by omega, rfl, HI.out⟩

      · have e39 : ((k : Int) == 39) = false := by
          have : (k : Int) ≠ 39 := by omega
          simpa using this
        have e34 : ((k : Int) == 34) = false := by
          have : (k : Int) ≠ 34 := by omega
          simpa using this
        have HI : Hid (pinv R 2 l (s.data.toList.drop (p + 1))) := by
          have h := HPi.out
          unfold pieceF at h
          rw [if_neg (by rw [HK.out]; exact k39), if_neg (by rw [HK.out]; exact k34)] at h
          exact h
        go_wp2
        go_step3
        exact ⟨_, ⟨rfl, rfl, rfl, rfl⟩, _, _, HR1.out, by omega, by omega, rfl, HI.out⟩

  case p0 =>
    rintro m a wr ⟨⟨hd, hsz, h0, h2⟩, q, l', hRq, hq, hl', rfl, hinv⟩
    obtain ⟨tm, df⟩ := a
    obtain ⟨u0, u1, u2, u3, u4, u5, u6, u7, u8, u9, u10, u11, u12, u13, u14, u15, u16, u17, u18, u19, u20, u21, u22, u23, u24, u25, u26, u27, u28, u29, u30, u31, u32, u33, u34, u35, u36, u37, u38, u39, u40, u41, u42, rfl⟩ := arr43 tm hsz
    simp only [] at hd
    subst hd
    have e0 : u0 = .pointer (some ⟨b, 0, none⟩) := by simpa using h0
    have e2 : u2 = .bool false := by simpa using h2
    subst e0 e2
    have hat := hRq.at
    clear h0 h2 hsz
    have HNx : Hid (Calls Try.prog 13 #[.pointer (some ⟨b, 0, none⟩)] wr fun e w' => e = .returned (.int .i64 (nextI s q)) ∧ Rd w0 w' b s q l' cmd cmds n) := next_any hRq hs
    have HIn : Hid (pinv R 0 l' (s.data.toList.drop q)) := hinv
    clear hRq hinv HSk HPi HK
    by_cases hqs : q < s.size
    · rw [nextI_lt hqs] at HNx
      obtain ⟨c, hc⟩ : ∃ c, s[q] = c := ⟨_, rfl⟩
      have HC : Hid (s[q] = c) := hc
      obtain ⟨k, hk⟩ : ∃ k, c.toNat = k := ⟨_, rfl⟩
      have HK : Hid (c.toNat = k) := hk
      rw [hc, hk] at HNx
      have HDr : Hid (s.data.toList.drop q = c :: s.data.toList.drop (q + 1)) := by rw [← hc]; exact drop_at s q hqs
      have hk256 := UInt8.toNat_lt c
      rw [hk] at hk256
      have kn1 : ((k : Int) == -1) = false := by simp
      clear hc hk
      go_wp2_with fail
      refine HNx.out.mono ?_
      rintro e w1 ⟨rfl, hR1⟩
      have HR1 : Hid (Rd w0 w1 b s q l' cmd cmds n) := hR1
      clear hR1 HNx
      by_cases k39 : k = 39
      · subst k39
        have HF : Hid (R = some (l', s.data.toList.drop (q + 1))) := by
          have h := HIn.out
          rw [HDr.out] at h
          unfold pinv singleF at h
          rw [if_pos HK.out, onto_nil] at h
          exact h.symm
        have HSk : Hid (Calls Try.prog 14 #[.pointer (some ⟨b, 0, none⟩)] w1 fun e w' => e = .returned (.int .i64 (s[q].toNat : Int)) ∧ Rd w0 w' b s (q + 1) l' cmd cmds n) := skip_any HR1.out hs hqs
        go_wp2_with fail
        refine HSk.out.mono ?_
        rintro e w2 ⟨rfl, hR2⟩
        have HR2 : Hid (Rd w0 w2 b s (q + 1) l' cmd cmds n) := hR2
        clear hR2 HSk HR1
        go_wp2
        try rw [Exit.noGoto_ret]
        go_ret
        rw [HF.out]
        exact ⟨rfl, _, HR2.out, rfl, by omega, by omega⟩
      · have HI : Hid (pinv R 0 (l' ++ [c]) (s.data.toList.drop (q + 1))) := by
          have h := HIn.out
          rw [HDr.out] at h
          unfold pinv singleF at h
          rw [if_neg (by rw [HK.out]; exact k39), onto_cons] at h
          exact h
        have e39 : ((k : Int) == 39) = false := by
          have : (k : Int) ≠ 39 := by omega
          simpa using this
        have HTk : Hid (Calls Try.prog 19 #[.pointer (some ⟨b, 0, none⟩)] w1 fun e w' => e = .returned (.tuple #[]) ∧ Rd w0 w' b s (q + 1) (l' ++ [s[q]]) cmd cmds n) := take_any HR1.out hs hqs (by omega)
        rw [HC.out] at HTk
        go_wp2_with fail
        refine HTk.out.mono ?_
        rintro e w2 ⟨rfl, hR2⟩
        have HR2 : Hid (Rd w0 w2 b s (q + 1) (l' ++ [c]) cmd cmds n) := hR2
        clear hR2 HTk HR1
        go_wp2
        go_step3
        exact ⟨_, (by show 1 + (s.size - (q + 1)) < 1 + (s.size - q); omega), ⟨rfl, rfl, rfl, rfl⟩, _, _, HR2.out, by omega, by simp; omega, rfl, HI.out⟩

    · rw [nextI_end hqs] at HNx
      have HF : Hid (R = none) := by
        have h := HIn.out
        rw [drop_end s q hqs] at h
        exact h.symm
      go_wp2_with fail
      refine HNx.out.mono ?_
      rintro e w1 ⟨rfl, hR1⟩
      have HR1 : Hid (Rd w0 w1 b s q l' cmd cmds n) := hR1
      clear hR1 HNx
      go_wp2
      go_step3
      exact ⟨_, (by show 0 < 1 + (s.size - q); omega), ⟨rfl, rfl, rfl, rfl⟩, _, _, HR1.out, by omega, by omega, rfl, HF.out⟩
  case p1 =>
    rintro m a wr ⟨⟨hd, hsz, h0, h2⟩, q, l', hRq, hq, hl', rfl, hinv⟩
    obtain ⟨tm, df⟩ := a
    obtain ⟨u0, u1, u2, u3, u4, u5, u6, u7, u8, u9, u10, u11, u12, u13, u14, u15, u16, u17, u18, u19, u20, u21, u22, u23, u24, u25, u26, u27, u28, u29, u30, u31, u32, u33, u34, u35, u36, u37, u38, u39, u40, u41, u42, rfl⟩ := arr43 tm hsz
    simp only [] at hd
    subst hd
    have e0 : u0 = .pointer (some ⟨b, 0, none⟩) := by simpa using h0
    have e2 : u2 = .bool false := by simpa using h2
    subst e0 e2
    have hat := hRq.at
    clear h0 h2 hsz
    have HNx : Hid (Calls Try.prog 13 #[.pointer (some ⟨b, 0, none⟩)] wr fun e w' => e = .returned (.int .i64 (nextI s q)) ∧ Rd w0 w' b s q l' cmd cmds n) := next_any hRq hs
    have HIn : Hid (pinv R 1 l' (s.data.toList.drop q)) := hinv
    clear hRq hinv HSk HPi HK
    by_cases hqs : q < s.size
    · rw [nextI_lt hqs] at HNx
      obtain ⟨c, hc⟩ : ∃ c, s[q] = c := ⟨_, rfl⟩
      have HC : Hid (s[q] = c) := hc
      obtain ⟨k, hk⟩ : ∃ k, c.toNat = k := ⟨_, rfl⟩
      have HK : Hid (c.toNat = k) := hk
      rw [hc, hk] at HNx
      have HDr : Hid (s.data.toList.drop q = c :: s.data.toList.drop (q + 1)) := by rw [← hc]; exact drop_at s q hqs
      have hk256 := UInt8.toNat_lt c
      rw [hk] at hk256
      have kn1 : ((k : Int) == -1) = false := by simp
      clear hc hk
      go_wp2_with fail
      refine HNx.out.mono ?_
      rintro e w1 ⟨rfl, hR1⟩
      have HR1 : Hid (Rd w0 w1 b s q l' cmd cmds n) := hR1
      clear hR1 HNx
      by_cases k34 : k = 34
      · subst k34
        have HF : Hid (R = some (l', s.data.toList.drop (q + 1))) := by
          have h := HIn.out
          rw [HDr.out] at h
          unfold pinv at h
          simp only [] at h
          rw [double_quote HK.out, onto_nil] at h
          exact h.symm
        have HSk : Hid (Calls Try.prog 14 #[.pointer (some ⟨b, 0, none⟩)] w1 fun e w' => e = .returned (.int .i64 (s[q].toNat : Int)) ∧ Rd w0 w' b s (q + 1) l' cmd cmds n) := skip_any HR1.out hs hqs
        go_wp2_with fail
        refine HSk.out.mono ?_
        rintro e w2 ⟨rfl, hR2⟩
        have HR2 : Hid (Rd w0 w2 b s (q + 1) l' cmd cmds n) := hR2
        clear hR2 HSk HR1
        go_wp2
        try rw [Exit.noGoto_ret]
        go_ret
        rw [HF.out]
        exact ⟨rfl, _, HR2.out, rfl, by omega, by omega⟩
      · by_cases k92 : k = 92
        · subst k92
          have HI : Hid (pinv R 4 l' (s.data.toList.drop (q + 1))) := by
            have h := HIn.out
            rw [HDr.out] at h
            unfold pinv at h
            simp only [] at h
            rw [double_back HK.out] at h
            exact h
          have HSk : Hid (Calls Try.prog 14 #[.pointer (some ⟨b, 0, none⟩)] w1 fun e w' => e = .returned (.int .i64 (s[q].toNat : Int)) ∧ Rd w0 w' b s (q + 1) l' cmd cmds n) := skip_any HR1.out hs hqs
          go_wp2_with fail
          refine HSk.out.mono ?_
          rintro e w2 ⟨rfl, hR2⟩
          have HR2 : Hid (Rd w0 w2 b s (q + 1) l' cmd cmds n) := hR2
          clear hR2 HSk HR1
          go_wp2
          go_step3
          exact ⟨_, (by show 1 + (s.size - (q + 1)) < 1 + (s.size - q); omega), ⟨rfl, rfl, rfl, rfl⟩, _, _, HR2.out, by omega, by omega, rfl, HI.out⟩
        · have HI : Hid (pinv R 1 (l' ++ [c]) (s.data.toList.drop (q + 1))) := by
            have h := HIn.out
            rw [HDr.out] at h
            unfold pinv at h
            simp only [] at h
            rw [double_other (by rw [HK.out]; exact k34) (by rw [HK.out]; exact k92), onto_cons] at h
            exact h
          have e34 : ((k : Int) == 34) = false := by
            have : (k : Int) ≠ 34 := by omega
            simpa using this
          have e92 : ((k : Int) == 92) = false := by
            have : (k : Int) ≠ 92 := by omega
            simpa using this

          have HTk : Hid (Calls Try.prog 19 #[.pointer (some ⟨b, 0, none⟩)] w1 fun e w' => e = .returned (.tuple #[]) ∧ Rd w0 w' b s (q + 1) (l' ++ [s[q]]) cmd cmds n) := take_any HR1.out hs hqs (by omega)
          rw [HC.out] at HTk
          go_wp2_with fail
          refine HTk.out.mono ?_
          rintro e w2 ⟨rfl, hR2⟩
          have HR2 : Hid (Rd w0 w2 b s (q + 1) (l' ++ [c]) cmd cmds n) := hR2
          clear hR2 HTk HR1
          go_wp2
          go_step3
          exact ⟨_, (by show 1 + (s.size - (q + 1)) < 1 + (s.size - q); omega), ⟨rfl, rfl, rfl, rfl⟩, _, _, HR2.out, by omega, by simp; omega, rfl, HI.out⟩

    · rw [nextI_end hqs] at HNx
      have HF : Hid (R = none) := by
        have h := HIn.out
        rw [drop_end s q hqs] at h
        unfold pinv at h
        simp only [] at h
        rw [double_nil] at h
        exact h.symm
      go_wp2_with fail
      refine HNx.out.mono ?_
      rintro e w1 ⟨rfl, hR1⟩
      have HR1 : Hid (Rd w0 w1 b s q l' cmd cmds n) := hR1
      clear hR1 HNx
      go_wp2
      go_step3
      exact ⟨_, (by show 0 < 1 + (s.size - q); omega), ⟨rfl, rfl, rfl, rfl⟩, _, _, HR1.out, by omega, by omega, rfl, HF.out⟩
  case p2 =>
    rintro m a wr ⟨⟨hd, hsz, h0, h2⟩, q, l', hRq, hq, hl', rfl, hinv⟩
    obtain ⟨tm, df⟩ := a
    obtain ⟨u0, u1, u2, u3, u4, u5, u6, u7, u8, u9, u10, u11, u12, u13, u14, u15, u16, u17, u18, u19, u20, u21, u22, u23, u24, u25, u26, u27, u28, u29, u30, u31, u32, u33, u34, u35, u36, u37, u38, u39, u40, u41, u42, rfl⟩ := arr43 tm hsz
    simp only [] at hd
    subst hd
    have e0 : u0 = .pointer (some ⟨b, 0, none⟩) := by simpa using h0
    have e2 : u2 = .bool false := by simpa using h2
    subst e0 e2
    have hat := hRq.at
    clear h0 h2 hsz
    have HNx : Hid (Calls Try.prog 13 #[.pointer (some ⟨b, 0, none⟩)] wr fun e w' => e = .returned (.int .i64 (nextI s q)) ∧ Rd w0 w' b s q l' cmd cmds n) := next_any hRq hs
    have HIn : Hid (pinv R 2 l' (s.data.toList.drop q)) := hinv
    clear hRq hinv HSk HPi HK
    by_cases hqs : q < s.size
    · rw [nextI_lt hqs] at HNx
      obtain ⟨c, hc⟩ : ∃ c, s[q] = c := ⟨_, rfl⟩
      have HC : Hid (s[q] = c) := hc
      obtain ⟨k, hk⟩ : ∃ k, c.toNat = k := ⟨_, rfl⟩
      have HK : Hid (c.toNat = k) := hk
      rw [hc, hk] at HNx
      have HDr : Hid (s.data.toList.drop q = c :: s.data.toList.drop (q + 1)) := by rw [← hc]; exact drop_at s q hqs
      have hk256 := UInt8.toNat_lt c
      rw [hk] at hk256
      have kn1 : ((k : Int) == -1) = false := by simp
      clear hc hk
      go_wp2_with fail
      refine HNx.out.mono ?_
      rintro e w1 ⟨rfl, hR1⟩
      have HR1 : Hid (Rd w0 w1 b s q l' cmd cmds n) := hR1
      clear hR1 HNx
      have HF : Hid (R = some (l' ++ [c], s.data.toList.drop (q + 1))) := by
        have h := HIn.out
        rw [HDr.out] at h
        exact h.symm
      have HTk : Hid (Calls Try.prog 19 #[.pointer (some ⟨b, 0, none⟩)] w1 fun e w' => e = .returned (.tuple #[]) ∧ Rd w0 w' b s (q + 1) (l' ++ [s[q]]) cmd cmds n) := take_any HR1.out hs hqs (by omega)
      rw [HC.out] at HTk
      go_wp2_with fail
      refine HTk.out.mono ?_
      rintro e w2 ⟨rfl, hR2⟩
      have HR2 : Hid (Rd w0 w2 b s (q + 1) (l' ++ [c]) cmd cmds n) := hR2
      clear hR2 HTk HR1
      go_wp2
      try rw [Exit.noGoto_ret]
      go_ret
      rw [HF.out]
      exact ⟨rfl, _, HR2.out, rfl, by omega, by simp; omega⟩
    · rw [nextI_end hqs] at HNx
      have HF : Hid (R = none) := by
        have h := HIn.out
        rw [drop_end s q hqs] at h
        exact h.symm
      go_wp2_with fail
      refine HNx.out.mono ?_
      rintro e w1 ⟨rfl, hR1⟩
      have HR1 : Hid (Rd w0 w1 b s q l' cmd cmds n) := hR1
      clear hR1 HNx
      go_wp2
      go_step3
      exact ⟨_, (by show 0 < 1 + (s.size - q); omega), ⟨rfl, rfl, rfl, rfl⟩, _, _, HR1.out, by omega, by omega, rfl, HF.out⟩
  case p3 =>
    rintro m a wr ⟨⟨hd, hsz, h0, h2⟩, q, l', hRq, hq, hl', rfl, hinv⟩
    obtain ⟨tm, df⟩ := a
    obtain ⟨u0, u1, u2, u3, u4, u5, u6, u7, u8, u9, u10, u11, u12, u13, u14, u15, u16, u17, u18, u19, u20, u21, u22, u23, u24, u25, u26, u27, u28, u29, u30, u31, u32, u33, u34, u35, u36, u37, u38, u39, u40, u41, u42, rfl⟩ := arr43 tm hsz
    simp only [] at hd
    subst hd
    have HF : Hid (R = none) := hinv
    have HR1 : Hid (Rd w0 wr b s q l' cmd cmds n) := hRq
    clear h0 h2 hsz hRq hinv HSk HPi HK
    go_wp2
    try rw [Exit.noGoto_ret]
    go_ret
    rw [HF.out]
    exact ⟨rfl, _, _, HR1.out⟩
  case p4 =>
    rintro m a wr ⟨⟨hd, hsz, h0, h2⟩, q, l', hRq, hq, hl', rfl, hinv⟩
    obtain ⟨tm, df⟩ := a
    obtain ⟨u0, u1, u2, u3, u4, u5, u6, u7, u8, u9, u10, u11, u12, u13, u14, u15, u16, u17, u18, u19, u20, u21, u22, u23, u24, u25, u26, u27, u28, u29, u30, u31, u32, u33, u34, u35, u36, u37, u38, u39, u40, u41, u42, rfl⟩ := arr43 tm hsz
    simp only [] at hd
    subst hd
    have e0 : u0 = .pointer (some ⟨b, 0, none⟩) := by simpa using h0
    have e2 : u2 = .bool false := by simpa using h2
    subst e0 e2
    have hat := hRq.at
    clear h0 h2 hsz
    have HNx : Hid (Calls Try.prog 13 #[.pointer (some ⟨b, 0, none⟩)] wr fun e w' => e = .returned (.int .i64 (nextI s q)) ∧ Rd w0 w' b s q l' cmd cmds n) := next_any hRq hs
    have HIn : Hid (pinv R 4 l' (s.data.toList.drop q)) := hinv
    clear hRq hinv HSk HPi HK
    by_cases hqs : q < s.size
    · rw [nextI_lt hqs] at HNx
      obtain ⟨c, hc⟩ : ∃ c, s[q] = c := ⟨_, rfl⟩
      have HC : Hid (s[q] = c) := hc
      obtain ⟨k, hk⟩ : ∃ k, c.toNat = k := ⟨_, rfl⟩
      have HK : Hid (c.toNat = k) := hk
      rw [hc, hk] at HNx
      have HDr : Hid (s.data.toList.drop q = c :: s.data.toList.drop (q + 1)) := by rw [← hc]; exact drop_at s q hqs
      have hk256 := UInt8.toNat_lt c
      rw [hk] at hk256
      have kn1 : ((k : Int) == -1) = false := by simp
      clear hc hk
      go_wp2_with fail
      refine HNx.out.mono ?_
      rintro e w1 ⟨rfl, hR1⟩
      have HR1 : Hid (Rd w0 w1 b s q l' cmd cmds n) := hR1
      clear hR1 HNx
      obtain ⟨v, kk, hE⟩ : ∃ v kk, escF (s.data.toList.drop q) = (v, kk) := ⟨_, _, rfl⟩
      have hk1 : 1 ≤ kk ∧ q + kk ≤ s.size := by
        have h := esc_one c (s.data.toList.drop (q + 1))
        rw [← HDr.out, hE] at h
        have h2 : (s.data.toList.drop q).length = s.size - q := by rw [List.length_drop, size_data]
        rw [h2] at h
        simp only [] at h
        omega
      have HI : Hid (pinv R 1 (l' ++ [v]) (s.data.toList.drop (q + kk))) := by
        have h := HIn.out
        unfold pinv at h
        simp only [] at h
        rw [HDr.out] at h
        unfold escD at h
        simp only [] at h
        rw [← HDr.out, hE] at h
        simp only [] at h
        rw [onto_cons, List.drop_drop] at h
        exact h
      have HTk : Hid (Calls Try.prog 24 #[.pointer (some ⟨b, 0, none⟩)] w1 fun e w' => e = .returned (.tuple #[]) ∧ Rd w0 w' b s (q + kk) (l' ++ [v]) cmd cmds n) := takeEscaped_any HR1.out hs hqs (by omega) v kk hE hk1.2
      clear hE
      go_wp2_with fail
      refine HTk.out.mono ?_
      rintro e w2 ⟨rfl, hR2⟩
      have HR2 : Hid (Rd w0 w2 b s (q + kk) (l' ++ [v]) cmd cmds n) := hR2
      clear hR2 HTk HR1
      go_wp2
      go_step3
      exact ⟨_, (by show 1 + (s.size - (q + kk)) < 1 + (s.size - q); omega), ⟨rfl, rfl, rfl, rfl⟩, _, _, HR2.out, by omega, by simp; omega, rfl, HI.out⟩
    · rw [nextI_end hqs] at HNx
      have HF : Hid (R = none) := by
        have h := HIn.out
        rw [drop_end s q hqs] at h
        exact h.symm
      go_wp2_with fail
      refine HNx.out.mono ?_
      rintro e w1 ⟨rfl, hR1⟩
      have HR1 : Hid (Rd w0 w1 b s q l' cmd cmds n) := hR1
      clear hR1 HNx
      go_wp2
      go_step3
      exact ⟨_, (by show 0 < 1 + (s.size - q); omega), ⟨rfl, rfl, rfl, rfl⟩, _, _, HR1.out, by omega, by omega, rfl, HF.out⟩

end Go.Proofs.Ytghkhnnlhkdceaa
