/-
  Lines of commands: the law of lists written and read.
-/
import Derived.Test.YtjlhdnaebdkalaaXListL
import Derived.Test.YtjlhdnaebdkalaaXTwoR
namespace Go.Proofs.Ytjlhdnaebdkalaa
open Go.RowKit
set_option linter.unusedVariables false
set_option maxRecDepth 100000

/-- Lists of lists of words as a caller hands them in. -/
def ListsArg (w : World) (v : Value) (cs : List (List (List UInt8))) : Prop := ∃ a cap, v = .slice a cs.length cap ∧ (cs ≠ [] → ∃ g o, a = some ⟨g, o, none⟩ ∧ g < w.heap.size ∧ ∀ i c, cs[i]? = some c → ∃ u, w.cell? ⟨g, o + i, none⟩ = some u ∧ StrSeeG w u c)
/-- The lists that are kept, in a row of one's own. -/
def SomeAt (w wr : World) (v : Value) (ds : List (List (List UInt8))) : Prop := ∃ xs, wr.ownsRow w.heap.size 24 1 v ds.length xs ∧ ∀ (j : Nat) c, ds[j]? = some c → ∃ u, xs[j]? = some u ∧ StrSeeG w u c
theorem SomeAt.see {w wr : World} {v : Value} {ds : List (List (List UInt8))} (h : SomeAt w wr v ds) (hb : Below w.heap.size w wr) : SeeD wr v ds := by
  obtain ⟨xs, h1, h2⟩ := h
  rcases h1.2 with ⟨rfl, h0⟩ | ⟨g, cap, cur, rfl, hb', hg, r⟩
  · exact ⟨none, 0, by rw [h0], fun hne => absurd (List.length_eq_zero_iff.1 h0) hne⟩
  · refine ⟨_, _, rfl, fun hne => ⟨g, rfl, lt_block hg, fun i c hc => ?_⟩⟩
    obtain ⟨v, h3, h4⟩ := h2 i c hc
    have hi := (List.getElem?_eq_some_iff.1 hc).1
    rw [World.ownsRow.cellAt h1 i (by simpa using hi)]
    exact ⟨v, h3, h4.below hb⟩
def keptF (cs : List (List (List UInt8))) : List (List (List UInt8)) := cs.filter fun c => !c.isEmpty
theorem kept_take {cs : List (List (List UInt8))} {i : Nat} {c : List (List UInt8)} (h : cs[i]? = some c) : keptF (cs.take (i + 1)) = if c = [] then keptF (cs.take i) else keptF (cs.take i) ++ [c] := by
  unfold keptF
  rw [take_get cs i c h, List.filter_append]
  cases c with
  | nil => simp
  | cons a b => simp
theorem kept_ne (cs : List (List (List UInt8))) : ∀ c ∈ keptF cs, c ≠ [] := fun c hc => by
  have := (List.mem_filter.1 hc).2
  intro e
  rw [e] at this
  exact absurd this (by decide)
theorem wcountT (cs : List (List (List UInt8))) (i : Nat) (c : List (List UInt8)) (h : cs[i]? = some c) : wcount (cs.take (i + 1)) = wcount (cs.take i) + c.length := by
  rw [take_get cs i c h]
  unfold wcount
  rw [List.map_append, List.sum_append]
  simp
theorem wcount_leT (cs : List (List (List UInt8))) (i : Nat) : wcount (cs.take i) ≤ wcount cs := by
  have h : wcount (cs.take i ++ cs.drop i) = wcount (cs.take i) + wcount (cs.drop i) := by unfold wcount; rw [List.map_append, List.sum_append]
  rw [List.take_append_drop] at h
  omega
theorem wcount_kept (cs : List (List (List UInt8))) : wcount (keptF cs) = wcount cs := by
  induction cs with
  | nil => rfl
  | cons c cs ih =>
    unfold keptF wcount at ih ⊢
    cases c with
    | nil => simpa using ih
    | cons a b => simpa using ih
theorem row_sliceL {w : World} {B : Nat} {e : TypeId} {v : Value} {n : Nat} {xs : List Value} (h : w.ownsRow B e 1 v n xs) : ∃ a c, v = .slice a n c := by
  rcases h.2 with ⟨e, h0⟩ | ⟨g', cap, cur, e, _⟩
  · exact ⟨none, 0, by rw [e, h0]⟩
  · exact ⟨_, _, e⟩

set_option maxHeartbeats 8000000 in
theorem lists_walk (v : Value) (cs : List (List (List UInt8))) (w : World) (h : ListsArg w v cs) (hs : SmallC cs) (hq : ∀ c ∈ cs, ∀ x ∈ c, x.length ≤ 1000000000) (hL : (linesF (keptF cs)).length ≤ 1000000000000) : Calls Try.prog 7 #[v] w fun x w' => x = .returned (.bool true) ∧ Below w.heap.size w w' := by
  have HSu : Hid (∀ W, Calls Try.prog 12 #[] W fun e w' => e = .returned (.bool true) ∧ Below W.heap.size W w') := sure_true
  obtain ⟨a1, k1, e1, f1⟩ := h
  subst e1
  have HG1 : Hid (cs ≠ [] → ∃ g o, a1 = some ⟨g, o, none⟩ ∧ g < w.heap.size ∧ ∀ i c, cs[i]? = some c → ∃ u, w.cell? ⟨g, o + i, none⟩ = some u ∧ StrSeeG w u c) := f1
  have hN9 := hs.1
  have HSc : Hid (∀ c ∈ cs, c.length ≤ 2000000) := hs.2
  have hsub : ∀ c ∈ keptF cs, c ∈ cs := fun c hc => (List.mem_filter.1 hc).1
  have hks : SmallC (keptF cs) := ⟨Nat.le_trans (List.length_filter_le _ _) hs.1, fun c hc => hs.2 c (hsub c hc)⟩
  have HLi : Hid (∀ u X, SeeD X u (keptF cs) → Calls Try.prog 14 #[u] X fun e w' => e = .returned (.string (str (linesF (keptF cs)))) ∧ Below X.heap.size X w') := fun u X hX => line_any u (keptF cs) X hX hks (fun c hc => hq c (hsub c hc)) hL
  have HSm : Hid (∀ u u2 X, SeeC X u (keptF cs) → SeeD X u2 (keptF cs) → Calls Try.prog 13 #[u, u2] X fun e w' => e = .returned (.bool true) ∧ Below X.heap.size X w') := fun u u2 X h1 h2 => same_trueD u u2 (keptF cs) X h1.any h2 hks
  have hcl := cmds_lines (keptF cs) (kept_ne cs)
  obtain ⟨LS, hLS⟩ : ∃ z, str (linesF (keptF cs)) = z := ⟨_, rfl⟩
  have hLz : (linesF (keptF cs)).length = LS.size := by rw [← hLS, str_size]
  have hLd : LS.data.toList = linesF (keptF cs) := by rw [← hLS, str_data]
  rw [hLz, wcount_kept] at hcl
  rw [hLS] at HLi
  rw [hLz] at hL
  have hNK : (keptF cs).length ≤ 2000000 := hks.1
  have hwc : wcount cs ≤ 5000000000000 := by
    have : ∀ l : List (List (List UInt8)), (∀ c ∈ l, c.length ≤ 2000000) → wcount l ≤ 2000000 * l.length := by
      intro l
      induction l with
      | nil => intro _; exact Nat.le_refl _
      | cons c l ih =>
        intro hl
        have h1 := hl c List.mem_cons_self
        have h2 := ih fun d hd => hl d (List.mem_cons_of_mem _ hd)
        unfold wcount at h2 ⊢
        simp only [List.map_cons, List.sum_cons, List.length_cons]
        omega
    have h3 := this cs hs.2
    omega
  obtain ⟨NK, hNKe⟩ : ∃ x, (keptF cs).length = x := ⟨_, rfl⟩
  have HNK : Hid ((keptF cs).length = NK) := hNKe
  rw [hNKe] at hcl hNK
  obtain ⟨WT, hWT⟩ : ∃ x, wcount cs = x := ⟨_, rfl⟩
  have HWT : Hid (wcount cs = WT) := hWT
  rw [hWT] at hcl hwc
  have HCl : Hid (cmdsF (linesF (keptF cs)) = if 8192 < LS.size then ([], 0, 2) else if 16 < NK ∨ 64 < WT then ([], 0, 91) else (keptF cs, 0, 0)) := hcl
  have HCa : Hid (∀ W, Calls Try.prog 11 #[.string LS] W (CmdA W (cmdsF (linesF (keptF cs))))) := fun W => by
    have h := commands_all LS W
    rw [hLd] at h
    exact h
  obtain ⟨N, hN⟩ : ∃ N, cs.length = N := ⟨_, rfl⟩
  have HN : Hid (cs.length = N) := hN
  rw [hN] at hN9 ⊢
  clear f1 hs hN hq hsub hks hcl hLS hLz hLd hNKe hWT
  go_enter Try.func7, Try.ntmps7
  go_wp2
  go_loopw [3, 4, 5] (fun vs vn vi wr => ∃ i : Nat, i ≤ N ∧ vi = .int .i64 i ∧ vn = .int .i64 ((wcount (cs.take i) : Nat) : Int) ∧ Hid (SomeAt w wr vs (keptF (cs.take i))) ∧ Hid (Below w.heap.size w wr)) (fun _ _ vi _ => N - (intOf vi).toNat)
  case atStart => exact ⟨0, Nat.zero_le _, rfl, rfl, ⟨[], World.ownsRow_nil _ _ _ _, fun j c hc => by simp [keptF] at hc⟩, Below.refl _ _⟩
  case round =>
    obtain ⟨i, hi, rfl, rfl, HSo, HB⟩ := hrel
    by_cases hlt : i < N
    · obtain ⟨c, hc⟩ : ∃ c, cs[i]? = some c := ⟨_, List.getElem?_eq_getElem (by rw [HN.out]; exact hlt)⟩
      have hne : cs ≠ [] := fun e => by rw [e] at hc; simp at hc
      obtain ⟨g1, o1, rfl, hg1, c1⟩ := HG1.out hne
      obtain ⟨v1, d1, s1⟩ := c1 i c hc
      have HS1 : Hid (StrSeeG w v1 c) := s1
      obtain ⟨b1, m1, rfl, _⟩ := s1
      have hcl := HSc.out c (List.mem_of_getElem? hc)
      have hk := kept_take hc
      have hwt := wcountT cs i c hc
      have hwl := wcount_leT cs (i + 1)
      rw [HWT.out] at hwl
      obtain ⟨M, hM⟩ : ∃ M, c.length = M := ⟨_, rfl⟩
      have HM : Hid (c.length = M) := hM
      rw [hM] at d1 hcl hwt HS1
      have d2 : wr.cell? ⟨g1, o1 + i, none⟩ = some (.slice b1 M m1) := (HB.out.cell (p := ⟨g1, o1 + i, none⟩) hg1).trans d1
      obtain ⟨W0, hW0⟩ : ∃ x, wcount (cs.take i) = x := ⟨_, rfl⟩
      obtain ⟨W1, hW1⟩ : ∃ x, wcount (cs.take (i + 1)) = x := ⟨_, rfl⟩
      rw [hW0] at hwt ⊢
      rw [hW1] at hwt hwl
      have HW1 : Hid (wcount (cs.take (i + 1)) = W1) := hW1
      by_cases hM0 : M = 0
      · subst hM0
        have hcn : c = [] := List.length_eq_zero_iff.1 hM
        have HK : Hid (keptF (cs.take (i + 1)) = keptF (cs.take i)) := by show _ = _; rw [hk, if_pos hcn]
        have HWe : Hid (W0 = W1) := by show _ = _; omega
        clear c1 d1 hM hc hne hg1 hk hwt hW0 hW1 hcn
        go_wp2
        go_roundw
        case rel => exact ⟨i + 1, by omega, by go_num, by rw [HW1.out, HWe.out], by rw [HK.out]; exact HSo, HB⟩
        case measure => simp [intOf]; omega
      · have hcn : c ≠ [] := fun e => hM0 (by rw [← hM, e]; rfl)
        have HK : Hid (keptF (cs.take (i + 1)) = keptF (cs.take i) ++ [c]) := by show _ = _; rw [hk, if_neg hcn]
        have hMp : 0 < M := by omega
        have hws : IntKind.i64.wrap ((W0 : Int) + (M : Int)) = (W1 : Int) := by rw [IntKind.wrap_i64]; omega
        obtain ⟨xs, ho, hxs⟩ := HSo.out
        have hkl : (keptF (cs.take i)).length ≤ 16777216 := by
          have h1 : (keptF (cs.take i)).length ≤ (cs.take i).length := List.length_filter_le _ _
          rw [List.length_take] at h1
          omega
        have HOw : Hid (wr.ownsRow w.heap.size 24 1 u3 (keptF (cs.take i)).length xs) := ho
        have HXs : Hid (∀ (j : Nat) c, (keptF (cs.take i))[j]? = some c → ∃ u, xs[j]? = some u ∧ StrSeeG w u c) := hxs
        have hxl : xs.length = (keptF (cs.take i)).length := by have := ho.1; omega
        have HXl : Hid (xs.length = (keptF (cs.take i)).length) := hxl
        have HD2 : Hid (∀ X, Below w.heap.size w X → X.cell? ⟨g1, o1 + i, none⟩ = some (.slice b1 M m1)) := fun X hX => (hX.cell (p := ⟨g1, o1 + i, none⟩) hg1).trans d1
        clear c1 d1 hM hc hne hg1 hk hwt hW0 hW1 hcn hM0 ho hxs hxl
        go_wp2_with (at_builtin; refine wpList_append_one wr rfl (.tmp 22) (.tmp 27) 25 24 rfl (.slice none 0 0) 24 Try.underlying25 infoSS rfl (by decide) w.heap.size u3 _ xs (.slice b1 M m1) rfl rfl HOw.out (by first | rfl | simp [Act.eval]) hkl HB.out.size ?_; intro v2 w2 h2 h3; have HO2 : Hid (w2.ownsRow w.heap.size 24 1 v2 ((keptF (cs.take i)).length + 1) (xs ++ [.slice b1 M m1])) := h2; have HB2 : Hid (Below w.heap.size w w2) := (HB.out.trans (((Below.refl w.heap.size wr).alloc HB.out.size _).grown h3 (by have := HB.out.size; simp; omega) fun k hk => (World.ownsRow.lt HOw.out k hk).1)); have d3 := HD2.out w2 HB2.out; clear h2 h3)
        go_roundw
        case rel =>
          refine ⟨i + 1, by omega, by go_num, by rw [HW1.out], ?_, HB2⟩
          rw [HK.out]
          refine ⟨_, by rw [List.length_append]; exact HO2.out, fun j d hd => ?_⟩
          by_cases hj : j < (keptF (cs.take i)).length
          · rw [List.getElem?_append_left hj] at hd
            obtain ⟨u, e1, e2⟩ := HXs.out j d hd
            exact ⟨u, by rw [List.getElem?_append_left (by rw [HXl.out]; exact hj)]; exact e1, e2⟩
          · have hj2 := (List.getElem?_eq_some_iff.1 hd).1
            rw [List.length_append, List.length_singleton] at hj2
            have hje : j = (keptF (cs.take i)).length := by omega
            subst hje
            have : c = d := by simpa using hd
            subst this
            exact ⟨_, by rw [← HXl.out]; simp, HS1.out⟩
        case measure => simp [intOf]; omega
    · have hie : i = N := by omega
      have HAll : Hid (cs.take i = cs) := by show _ = _; rw [hie, ← HN.out, List.take_length]
      rw [HAll.out, HWT.out]
      rw [HAll.out] at HSo
      obtain ⟨sa, sk, rfl⟩ : ∃ x y, u3 = .slice x NK y := by
        obtain ⟨xs, h1, _⟩ := HSo.out
        rw [HNK.out] at h1
        exact row_sliceL h1
      have HSe : Hid (SeeD wr (.slice sa NK sk) (keptF cs)) := HSo.out.see HB.out
      clear hie HAll
      by_cases h8 : 8192 < LS.size
      · have HCm : Hid (∀ W, Calls Try.prog 11 #[.string LS] W fun x w' => ∃ v, x = .returned (.tuple #[v, .int .i64 0, .int .i64 2]) ∧ SeeC w' v [] ∧ Below W.heap.size W w') := fun W => by
          have h := HCa.out W
          rw [HCl.out, if_pos h8] at h
          exact h.mono fun x w' ⟨v, e1, e2, e3⟩ => ⟨v, e1, e2.see, e3⟩
        have d8 : decide ((8192 : Int) < (LS.size : Int)) = true := decide_eq_true (by omega)
        go_wp2_with fail
        refine (HLi.out _ _ HSe.out).mono ?_
        rintro e w2 ⟨rfl, hb2⟩
        have HS2 : Hid (SeeD w2 (.slice sa NK sk) (keptF cs)) := HSe.out.below hb2
        have HB2 : Hid (Below w.heap.size w w2) := HB.out.trans (hb2.mono HB.out.size)
        clear hb2
        go_wp2_with fail
        refine (HCm.out _).mono ?_
        rintro e w3 ⟨v3, rfl, hv3, hb3⟩
        have HB3 : Hid (Below w.heap.size w w3) := HB2.out.trans (hb3.mono HB2.out.size)
        have HS3 : Hid (SeeD w3 (.slice sa NK sk) (keptF cs)) := HS2.out.below hb3
        have HV3 : Hid (SeeC w3 v3 []) := hv3
        clear hb3 hv3
        obtain ⟨va, vk, rfl, _⟩ := HV3.out
        go_wp2_with fail
        refine (HSu.out _).mono ?_
        rintro e w9 ⟨rfl, hb9⟩
        have HB9 : Hid (Below w.heap.size w w9) := HB3.out.trans (hb9.mono HB3.out.size)
        clear hb9
        go_wp2
        go_ret
        exact ⟨rfl, HB9.out⟩
      · have d8 : decide ((8192 : Int) < (LS.size : Int)) = false := decide_eq_false (by omega)
        by_cases hbad : 16 < NK ∨ 64 < WT
        · have HCm : Hid (∀ W, Calls Try.prog 11 #[.string LS] W fun x w' => ∃ v, x = .returned (.tuple #[v, .int .i64 0, .int .i64 91]) ∧ SeeC w' v [] ∧ Below W.heap.size W w') := fun W => by
            have h := HCa.out W
            rw [HCl.out, if_neg h8, if_pos hbad] at h
            exact h.mono fun x w' ⟨v, e1, e2, e3⟩ => ⟨v, e1, e2.see, e3⟩
          by_cases h16 : 16 < NK
          · have d16 : decide ((16 : Int) < (NK : Int)) = true := decide_eq_true (by omega)
            clear hbad
            go_wp2_with fail
            refine (HLi.out _ _ HSe.out).mono ?_
            rintro e w2 ⟨rfl, hb2⟩
            have HS2 : Hid (SeeD w2 (.slice sa NK sk) (keptF cs)) := HSe.out.below hb2
            have HB2 : Hid (Below w.heap.size w w2) := HB.out.trans (hb2.mono HB.out.size)
            clear hb2
            go_wp2_with fail
            refine (HCm.out _).mono ?_
            rintro e w3 ⟨v3, rfl, hv3, hb3⟩
            have HB3 : Hid (Below w.heap.size w w3) := HB2.out.trans (hb3.mono HB2.out.size)
            have HS3 : Hid (SeeD w3 (.slice sa NK sk) (keptF cs)) := HS2.out.below hb3
            have HV3 : Hid (SeeC w3 v3 []) := hv3
            clear hb3 hv3
            obtain ⟨va, vk, rfl, _⟩ := HV3.out
            go_wp2_with fail
            refine (HSu.out _).mono ?_
            rintro e w9 ⟨rfl, hb9⟩
            have HB9 : Hid (Below w.heap.size w w9) := HB3.out.trans (hb9.mono HB3.out.size)
            clear hb9
            go_wp2
            go_ret
            exact ⟨rfl, HB9.out⟩
          · have d16 : decide ((16 : Int) < (NK : Int)) = false := decide_eq_false (by omega)
            have d64 : decide ((64 : Int) < (WT : Int)) = true := decide_eq_true (by omega)
            clear hbad
            go_wp2_with fail
            refine (HLi.out _ _ HSe.out).mono ?_
            rintro e w2 ⟨rfl, hb2⟩
            have HS2 : Hid (SeeD w2 (.slice sa NK sk) (keptF cs)) := HSe.out.below hb2
            have HB2 : Hid (Below w.heap.size w w2) := HB.out.trans (hb2.mono HB.out.size)
            clear hb2
            go_wp2_with fail
            refine (HCm.out _).mono ?_
            rintro e w3 ⟨v3, rfl, hv3, hb3⟩
            have HB3 : Hid (Below w.heap.size w w3) := HB2.out.trans (hb3.mono HB2.out.size)
            have HS3 : Hid (SeeD w3 (.slice sa NK sk) (keptF cs)) := HS2.out.below hb3
            have HV3 : Hid (SeeC w3 v3 []) := hv3
            clear hb3 hv3
            obtain ⟨va, vk, rfl, _⟩ := HV3.out
            go_wp2_with fail
            refine (HSu.out _).mono ?_
            rintro e w9 ⟨rfl, hb9⟩
            have HB9 : Hid (Below w.heap.size w w9) := HB3.out.trans (hb9.mono HB3.out.size)
            clear hb9
            go_wp2
            go_ret
            exact ⟨rfl, HB9.out⟩
        · have HCm : Hid (∀ W, Calls Try.prog 11 #[.string LS] W fun x w' => ∃ v, x = .returned (.tuple #[v, .int .i64 0, .int .i64 0]) ∧ SeeC w' v (keptF cs) ∧ Below W.heap.size W w') := fun W => by
            have h := HCa.out W
            rw [HCl.out, if_neg h8, if_neg hbad] at h
            exact h.mono fun x w' ⟨v, e1, e2, e3⟩ => ⟨v, e1, e2.see, e3⟩
          have d16 : decide ((16 : Int) < (NK : Int)) = false := decide_eq_false (by omega)
          have d64 : decide ((64 : Int) < (WT : Int)) = false := decide_eq_false (by omega)
          clear hbad
          go_wp2_with fail
          refine (HLi.out _ _ HSe.out).mono ?_
          rintro e w2 ⟨rfl, hb2⟩
          have HS2 : Hid (SeeD w2 (.slice sa NK sk) (keptF cs)) := HSe.out.below hb2
          have HB2 : Hid (Below w.heap.size w w2) := HB.out.trans (hb2.mono HB.out.size)
          clear hb2
          go_wp2_with fail
          refine (HCm.out _).mono ?_
          rintro e w3 ⟨v3, rfl, hv3, hb3⟩
          have HB3 : Hid (Below w.heap.size w w3) := HB2.out.trans (hb3.mono HB2.out.size)
          have HS3 : Hid (SeeD w3 (.slice sa NK sk) (keptF cs)) := HS2.out.below hb3
          have HV3 : Hid (SeeC w3 v3 (keptF cs)) := hv3
          clear hb3 hv3
          go_wp2_with fail
          refine (HSm.out _ _ _ HV3.out HS3.out).mono ?_
          rintro e w4 ⟨rfl, hb4⟩
          have HB4 : Hid (Below w.heap.size w w4) := HB3.out.trans (hb4.mono HB3.out.size)
          clear hb4
          go_wp2_with fail
          refine (HSu.out _).mono ?_
          rintro e w9 ⟨rfl, hb9⟩
          have HB9 : Hid (Below w.heap.size w w9) := HB4.out.trans (hb9.mono HB4.out.size)
          clear hb9
          go_wp2
          go_ret
          exact ⟨rfl, HB9.out⟩

end Go.Proofs.Ytjlhdnaebdkalaa
