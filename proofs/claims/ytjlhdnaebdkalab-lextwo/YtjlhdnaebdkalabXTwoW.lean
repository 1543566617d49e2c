/-
  Lines of commands: the law of a line in two parts.
-/
import Derived.Test.YtjlhdnaebdkalabXTwoR
namespace Go.Proofs.Ytjlhdnaebdkalab
open Go.RowKit
set_option linter.unusedVariables false
set_option maxRecDepth 100000

theorem bne_bytes {X Y : ByteArray} (h : X ≠ Y) : (X != Y) = true := by
  cases hb : (X == Y) with
  | true => exact absurd (beq_bytes hb) h
  | false => show (!(X == Y)) = true; rw [hb]; rfl
theorem CmdsAt.under {w w' : World} {B : Nat} {v : Value} {cs : List (List (List UInt8))} (h : CmdsAt w B v cs) (hb : Below w.heap.size w w') : CmdsAt w' B v cs := by
  obtain ⟨vs, h1, h2⟩ := h
  exact ⟨vs, row24_keep h1 fun g cur _ hg => hb.block g (lt_block hg), (h2.keep fun g cur _ hg => hb.block g (lt_block hg)).up hb.size⟩
theorem Rows2.ones {w : World} {lo : Nat} {vs : List Value} {cs : List (List (List UInt8))} {hi : Nat} (h : Rows2 w lo vs cs hi) : ∀ u ∈ vs, u.oneCell' = true := by
  induction h with
  | nil hi h0 => intro u hu; cases hu
  | snoc vs cs mid hi v c _ hv hlt hle ih =>
    intro u hu
    rcases List.mem_append.1 hu with h | h
    · exact ih u h
    · rw [List.mem_singleton.1 h]
      obtain ⟨a, k, e⟩ := row_slice hv
      rw [e]
      rfl
/-- One row of lists appended to another. -/
theorem wpList_append_rows {ops : Array Oper} {rest : List Oper} {o : Oper} {a : Act} {Q : Exit → Act → World → Prop} (w : World) (hgd : o.guard = none) (s x : Operand) (t : TypeId)
    (ho : o.op = .call { callee := .builtin .append, args := #[s, x], argTypes := #[t, t] }) (ht : Try.prog.underlying t = some (.slice 29))
    (B B' : Nat) (v : Value) (k : Nat) (xs : List Value) (u : Value) (m : Nat) (ys : List Value) (hs : a.eval s = v) (hown : w.ownsRow B 29 1 v k xs) (hx : a.eval x = u) (hu : w.ownsRow B' 29 1 u m ys) (hy : ∀ y ∈ ys, y.oneCell' = true) (hlen : k + m ≤ 16777216) (hB : B ≤ w.heap.size)
    (h : ∀ v' w', w'.ownsRow B 29 1 v' (k + m) (xs ++ ys) → Below B w w' → wpList Try.prog ops Q rest (a.put o.dst v') w') : wpList Try.prog ops Q (o :: rest) a w := by
  obtain ⟨i0, hi, hz0, hz1, hz2⟩ := info_parts infoSS
  have hlm : ys.length = m * 1 := hu.1
  rcases hu.2 with ⟨rfl, h0⟩ | ⟨g, cap, cur, rfl, hb, hg, h1, h2, h3, h4⟩
  · subst h0
    have : ys = [] := List.length_eq_zero_iff.1 (by omega)
    subst this
    refine wpList_append_own_none hgd s x t ho B 29 i0 1 ht hi v k xs hs hown hx (h v w ?_ (Below.refl _ _))
    rw [List.append_nil]
    exact hown
  · refine wpList_append_own w hgd s x t ho B 29 i0 (.slice none 0 0) 1 24 ht hi hz0 hz1 hz2 rfl (by decide) v k xs hs hown ⟨g, 0, none⟩ m cap ys hx hlm (fun j y hy => ?_) hy (by unfold maxLen; omega) (by omega) hB ?_
    · rw [show (⟨g, 0, none⟩ : Addr).add j = ⟨g, j, none⟩ by unfold Addr.add; split <;> simp_all]
      have hj := (List.getElem?_eq_some_iff.1 hy).1
      rw [World.ownsRow.cellAt hu j (by omega)]
      exact hy
    · intro v' w' h2 h3 _
      exact h v' w' h2 ((Below.refl B w).grown h3 hB fun k hk => (World.ownsRow.lt hown k hk).1)
theorem see_row {w : World} {B n : Nat} {v : Value} {vs : List Value} {cs : List (List (List UInt8))} (h : w.ownsRow B 29 1 v n vs) (hn : cs.length = n) (hv : ∀ (i : Nat) c, cs[i]? = some c → ∃ v, vs[i]? = some v ∧ StrSee w v c) : SeeC w v cs := by
  subst hn
  rcases h.2 with ⟨rfl, h0⟩ | ⟨g, cap, cur, rfl, hb, hg, r⟩
  · exact ⟨none, 0, by rw [h0], fun hne => absurd (List.length_eq_zero_iff.1 h0) hne⟩
  · refine ⟨_, _, rfl, fun hne => ⟨g, rfl, lt_block hg, fun i c hc => ?_⟩⟩
    obtain ⟨v, h3, h4⟩ := hv i c hc
    have hi := (List.getElem?_eq_some_iff.1 hc).1
    rw [World.ownsRow.cellAt h i (by simpa using hi)]
    exact ⟨v, h3, h4⟩
theorem wcount_app (a b : List (List (List UInt8))) : wcount (a ++ b) = wcount a + wcount b := by unfold wcount; rw [List.map_append, List.sum_append]
theorem wcount_take (cs : List (List (List UInt8))) (i : Nat) (c : List (List UInt8)) (h : cs[i]? = some c) : wcount (cs.take (i + 1)) = wcount (cs.take i) + c.length := by
  obtain ⟨hi, e⟩ := List.getElem?_eq_some_iff.1 h
  rw [List.take_succ_eq_append_getElem hi, wcount_app, e]
  simp [wcount]
theorem wcount_takes (cs : List (List (List UInt8))) (i : Nat) : wcount (cs.take i) ≤ wcount cs := by
  have h := wcount_app (cs.take i) (cs.drop i)
  rw [List.take_append_drop] at h
  omega
/-- A list by its last. -/
theorem by_last {α : Type} (l : List α) (n : Nat) (x : α) (hn : l.length = n + 1) (hx : l[n]? = some x) : l = l.take n ++ [x] := by
  obtain ⟨hi, e⟩ := List.getElem?_eq_some_iff.1 hx
  have h := List.take_succ_eq_append_getElem hi
  rw [List.take_of_length_le (by omega), e] at h
  exact h

set_option maxHeartbeats 16000000 in
theorem two_walk (a b : ByteArray) (w : World) (ha : a.size ≤ 140737488355328) (hb : b.size ≤ 140737488355328) : Calls Try.prog 4 #[.string a, .string b] w fun x w' => x = .returned (.bool true) ∧ Below w.heap.size w w' := by
  have HSu : Hid (∀ W, Calls Try.prog 8 #[] W fun e w' => e = .returned (.bool true) ∧ Below W.heap.size W w') := sure_true
  have z1 : (a ++ (⟨#[32, 101, 110, 100]⟩ : ByteArray)).data.toList = a.data.toList ++ 32 :: endW := app_dataT _ _
  have had : a.data.toList.length = a.size := size_data a
  have hbd : b.data.toList.length = b.size := size_data b
  obtain ⟨l, p, er, h1⟩ : ∃ x y z, cmdsF (a.data.toList ++ 32 :: endW) = (x, y, z) := ⟨_, _, _, rfl⟩
  obtain ⟨m, q, er2, h2⟩ : ∃ x y z, cmdsF b.data.toList = (x, y, z) := ⟨_, _, _, rfl⟩
  have HC1 : Hid (∀ W, Calls Try.prog 6 #[.string (a ++ (⟨#[32, 101, 110, 100]⟩ : ByteArray))] W fun x w' => ∃ v, x = .returned (.tuple #[v, .int .i64 (p : Int), .int .i64 (er : Int)]) ∧ CmdsAt w' W.heap.size v l ∧ Below W.heap.size W w') := fun W => by
    have h := commands_all (a ++ (⟨#[32, 101, 110, 100]⟩ : ByteArray)) W
    rw [z1, h1] at h
    exact h
  have HC2 : Hid (∀ W, Calls Try.prog 6 #[.string b] W fun x w' => ∃ v, x = .returned (.tuple #[v, .int .i64 (q : Int), .int .i64 (er2 : Int)]) ∧ CmdsAt w' W.heap.size v m ∧ Below W.heap.size W w') := fun W => by
    have h := commands_all b W
    rw [h2] at h
    exact h
  obtain ⟨N, hN⟩ : ∃ x, l.length = x := ⟨_, rfl⟩
  have HN : Hid (l.length = N) := hN
  have hws : IntKind.i64.wrap ((a.size : Int) + (b.size : Int)) = (a.size : Int) + (b.size : Int) := by rw [IntKind.wrap_i64]; omega
  by_cases e1 : er = 0
  · subst e1
    by_cases e2 : er2 = 0
    · subst e2
      by_cases e3 : N = 0
      · have eN : ((N : Int) == 0) = true := by rw [e3]; rfl
        clear h1 h2 hN z1 had hbd e3
        go_enter Try.func4, Try.ntmps4
        go_wp2_with fail
        refine (HC1.out _).mono ?_
        rintro e w1 ⟨v1, rfl, hv1, hb1⟩
        obtain ⟨va, vk, rfl⟩ : ∃ x z, v1 = .slice x N z := by
          obtain ⟨vs, h, _⟩ := hv1
          rw [HN.out] at h
          exact row_slice h
        have HV1 : Hid (CmdsAt w1 w.heap.size (.slice va N vk) l) := hv1
        have HB1 : Hid (Below w.heap.size w w1) := hb1
        clear hv1 hb1
        go_wp2_with fail
        refine (HC2.out _).mono ?_
        rintro e w2 ⟨v2, rfl, hv2, hb2⟩
        have HV2 : Hid (CmdsAt w2 w.heap.size (.slice va N vk) l) := HV1.out.under hb2
        have HB2 : Hid (Below w.heap.size w w2) := HB1.out.trans (hb2.mono HB1.out.size)
        have HM2 : Hid (CmdsAt w2 w1.heap.size v2 m) := hv2
        clear hv2 hb2
        go_wp2_with fail
        refine (HSu.out _).mono ?_
        rintro e w9 ⟨rfl, hb9⟩
        have HB9 : Hid (Below w.heap.size w w9) := HB2.out.trans (hb9.mono HB2.out.size)
        clear hb9
        go_wp2
        go_ret
        exact ⟨rfl, HB9.out⟩

      · have eN : ((N : Int) == 0) = false := by
          have : (N : Int) ≠ 0 := by omega
          simpa using this
        by_cases e4 : 8000 < a.size + b.size
        · have d8 : decide ((8000 : Int) < (a.size : Int) + (b.size : Int)) = true := decide_eq_true (by omega)
          clear h1 h2 hN z1 had hbd
          go_enter Try.func4, Try.ntmps4
          go_wp2_with fail
          refine (HC1.out _).mono ?_
          rintro e w1 ⟨v1, rfl, hv1, hb1⟩
          obtain ⟨va, vk, rfl⟩ : ∃ x z, v1 = .slice x N z := by
            obtain ⟨vs, h, _⟩ := hv1
            rw [HN.out] at h
            exact row_slice h
          have HV1 : Hid (CmdsAt w1 w.heap.size (.slice va N vk) l) := hv1
          have HB1 : Hid (Below w.heap.size w w1) := hb1
          clear hv1 hb1
          go_wp2_with fail
          refine (HC2.out _).mono ?_
          rintro e w2 ⟨v2, rfl, hv2, hb2⟩
          have HV2 : Hid (CmdsAt w2 w.heap.size (.slice va N vk) l) := HV1.out.under hb2
          have HB2 : Hid (Below w.heap.size w w2) := HB1.out.trans (hb2.mono HB1.out.size)
          have HM2 : Hid (CmdsAt w2 w1.heap.size v2 m) := hv2
          clear hv2 hb2
          go_wp2_with fail
          refine (HSu.out _).mono ?_
          rintro e w9 ⟨rfl, hb9⟩
          have HB9 : Hid (Below w.heap.size w w9) := HB2.out.trans (hb9.mono HB2.out.size)
          clear hb9
          go_wp2
          go_ret
          exact ⟨rfl, HB9.out⟩

        · have d8 : decide ((8000 : Int) < (a.size : Int) + (b.size : Int)) = false := decide_eq_false (by omega)
          obtain ⟨N1, hN1⟩ : ∃ x, N = x + 1 := ⟨N - 1, by omega⟩
          have hwN : IntKind.i64.wrap ((N : Int) - 1) = (N1 : Int) := by rw [IntKind.wrap_i64]; have := (cmds_ok h1).2.2.2; omega
          have hlN : N1 < N := by omega
          obtain ⟨c, hc⟩ : ∃ c, l[N1]? = some c := ⟨_, List.getElem?_eq_getElem (by omega)⟩
          have HCc : Hid (l[N1]? = some c) := hc
          have hcm := List.mem_of_getElem? hc
          have hcn := cmds_ne h1 c hcm
          have HCn : Hid (c ≠ []) := hcn
          have hcw := wcount_mem l c hcm
          obtain ⟨ML, hMl⟩ : ∃ x, c.length = x := ⟨_, rfl⟩
          have HMl : Hid (c.length = ML) := hMl
          have hpos := List.length_pos_iff.2 hcn
          obtain ⟨M1, hML⟩ : ∃ x, ML = x + 1 := ⟨ML - 1, by omega⟩
          have k1 := (cmds_ok h1).2.2.2
          have k2 := (cmds_ok h2).2.2.2
          have hwM : IntKind.i64.wrap ((ML : Int) - 1) = (M1 : Int) := by rw [IntKind.wrap_i64]; omega
          have hlM : M1 < ML := by omega
          obtain ⟨x, hx⟩ : ∃ x, c[M1]? = some x := ⟨_, List.getElem?_eq_getElem (by omega)⟩
          have HX : Hid (c[M1]? = some x) := hx
          obtain ⟨NM, hNM⟩ : ∃ x, m.length = x := ⟨_, rfl⟩
          have HMm : Hid (m.length = NM) := hNM
          obtain ⟨NB, hNB⟩ : ∃ x, 0 + N + NM = x := ⟨_, rfl⟩
          have HNB : Hid (0 + N + NM = NB) := hNB
          have HLm : Hid ((l ++ m).length = NB) := by show _ = _; rw [List.length_append]; omega
          have hNs : N ≤ 16 := by omega
          have hNMs : NM ≤ 16 := by omega
          have hNBs : NB ≤ 32 := by omega
          have HWb : Hid (wcount (l ++ m) ≤ 128) := by show _ ≤ _; rw [wcount_app]; omega
          have HTwo : Hid ((∃ l' c', l = l' ++ [c' ++ [endW]]) → ¬ (16 < (l ++ m).length ∨ 64 < wcount (l ++ m)) → (cmdsF (a.data.toList ++ 32 :: endW)).1 ≠ (cmdsF (a.data.toList ++ 32 :: endW2)).1 → Hid (cmdsF (a.data.toList ++ 32 :: endW ++ 59 :: b.data.toList) = (l ++ m, 0, 0))) := fun x1 x2 x3 => cmds_two h1 h2 (by omega) x1 x2 x3
          have HCT : Hid (Hid (cmdsF (a.data.toList ++ 32 :: endW ++ 59 :: b.data.toList) = (l ++ m, 0, 0)) → Hid (∀ W, Calls Try.prog 6 #[.string (a ++ (⟨#[32, 101, 110, 100, 59]⟩ : ByteArray) ++ b)] W fun x w' => ∃ v, x = .returned (.tuple #[v, .int .i64 0, .int .i64 0]) ∧ SeeC w' v (l ++ m) ∧ Below W.heap.size W w')) := fun hh W => by
            have h := commands_all (a ++ (⟨#[32, 101, 110, 100, 59]⟩ : ByteArray) ++ b) W
            have z : (a ++ (⟨#[32, 101, 110, 100, 59]⟩ : ByteArray) ++ b).data.toList = a.data.toList ++ 32 :: endW ++ 59 :: b.data.toList := by
              rw [app_dataT, app_dataT, List.append_assoc, List.append_assoc]
              rfl
            rw [z, hh.out] at h
            exact h.mono fun x w' ⟨v, e1, e2, e3⟩ => ⟨v, e1, e2.see, e3⟩
          have HRk : Hid (∀ W, Calls Try.prog 9 #[.string a] W fun e w' => ∃ b, e = .returned (.bool b) ∧ ((cmdsF (a.data.toList ++ 32 :: endW)).1 = (cmdsF (a.data.toList ++ 32 :: endW2)).1 → b = true) ∧ Below W.heap.size W w') := fun W => remarked_any a W (by omega)
          have hsm : SmallC (l ++ m) := by
            have s1 := cmds_small h1
            have s2 := cmds_small h2
            refine ⟨by rw [HLm.out]; omega, fun c hc => ?_⟩
            rcases List.mem_append.1 hc with h | h
            · exact s1.2 c h
            · exact s2.2 c h
          have HSm : Hid (∀ v u X, SeeC X v (l ++ m) → SeeC X u (l ++ m) → Calls Try.prog 7 #[v, u] X fun e w' => e = .returned (.bool true) ∧ Below X.heap.size X w') := fun v u X h1 h2 => same_true v u (l ++ m) X h1 h2 hsm
          have HN1 : Hid (N = N1 + 1) := hN1
          have HML : Hid (ML = M1 + 1) := hML
          clear h1 h2 hN z1 had hbd hc hcm hcn hcw hMl hpos k1 k2 hx hNM hNB hsm hN1 hML
          go_enter Try.func4, Try.ntmps4
          go_wp2_with fail
          refine (HC1.out _).mono ?_
          rintro e w1 ⟨v1, rfl, hv1, hb1⟩
          obtain ⟨va, vk, rfl⟩ : ∃ x z, v1 = .slice x N z := by
            obtain ⟨vs, h, _⟩ := hv1
            rw [HN.out] at h
            exact row_slice h
          have HV1 : Hid (CmdsAt w1 w.heap.size (.slice va N vk) l) := hv1
          have HB1 : Hid (Below w.heap.size w w1) := hb1
          clear hv1 hb1
          go_wp2_with fail
          refine (HC2.out _).mono ?_
          rintro e w2 ⟨v2, rfl, hv2, hb2⟩
          have HV2 : Hid (CmdsAt w2 w.heap.size (.slice va N vk) l) := HV1.out.under hb2
          have HB2 : Hid (Below w.heap.size w w2) := HB1.out.trans (hb2.mono HB1.out.size)
          have HM2 : Hid (CmdsAt w2 w1.heap.size v2 m) := hv2
          clear hv2 hb2
          obtain ⟨vsl, rl, kl⟩ := HV2.out
          obtain ⟨vsm, rm, km⟩ := HM2.out
          rw [HN.out] at rl
          rw [HMm.out] at rm
          obtain ⟨va2, vk2, rfl⟩ := row_slice rm
          obtain ⟨g, rfl⟩ : ∃ g, va = some ⟨g, 0, none⟩ := by
            rcases rl.2 with ⟨_, h0⟩ | ⟨g, cap, cur, e, _⟩
            · omega
            · cases e
              exact ⟨g, rfl⟩
          obtain ⟨u, hu1, hu2⟩ := kl.get N1 c HCc.out
          obtain ⟨ua, uk, rfl, hu3⟩ := hu2
          obtain ⟨h, rfl, hlt, hcells⟩ := hu3 HCn.out
          have hxc := hcells M1 x HX.out
          rw [HMl.out] at hu1
          have cl : w2.cell? ⟨g, N1, none⟩ = some (.slice (some ⟨h, 0, none⟩) ML uk) := (World.ownsRow.cellAt rl N1 (by omega)).trans hu1
          have HXc : Hid (w2.cell? ⟨h, M1, none⟩ = some (strV x)) := hxc
          have HLt : Hid (h < w2.heap.size) := hlt
          have HKl : Hid (Rows2 w2 w.heap.size vsl l w2.heap.size) := kl
          have HKm : Hid (Rows2 w2 w1.heap.size vsm m w2.heap.size) := km
          have HRl : Hid (w2.ownsRow w.heap.size 29 1 (.slice (some ⟨g, 0, none⟩) N vk) N vsl) := rl
          have HRm : Hid (w2.ownsRow w1.heap.size 29 1 (.slice va2 NM vk2) NM vsm) := rm
          have hl1 : 0 + N ≤ 16777216 := by omega
          have hl2 : 0 + N + NM ≤ 16777216 := by omega
          clear kl km rl rm hu1 hu3 hcells hxc hlt
          go_upto_region 8 with fail
          clear cl
          go_wp2_with (first
            | (at_builtin; refine wpList_append_rows w2 rfl (.tmp 57) (.tmp 58) 22 rfl Try.underlying22 w2.heap.size w.heap.size _ 0 [] _ N vsl rfl (World.ownsRow_nil _ _ _ _) rfl HRl.out HKl.out.ones hl1 (Nat.le_refl _) ?_; intro v3 w3 h3 b3; have H3 : Hid (w3.ownsRow w2.heap.size 29 1 v3 (0 + N) ([] ++ vsl)) := h3; have B3 : Hid (Below w2.heap.size w2 w3) := b3; have R3 : Hid (w3.ownsRow w1.heap.size 29 1 (.slice va2 NM vk2) NM vsm) := (row24_keep HRm.out fun g cur _ hg => b3.block g (lt_block hg)); clear h3 b3)
            | (at_builtin; refine wpList_append_rows w3 rfl (.tmp 60) (.tmp 61) 22 rfl Try.underlying22 w2.heap.size w1.heap.size _ (0 + N) ([] ++ vsl) _ NM vsm rfl H3.out rfl R3.out HKm.out.ones hl2 B3.out.size ?_; intro v4 w4 h4 b4; rw [HNB.out] at h4; obtain ⟨ab, kb, rfl⟩ := row_slice h4; have H4 : Hid (w4.ownsRow w2.heap.size 29 1 (.slice ab NB kb) NB ([] ++ vsl ++ vsm)) := h4; have B4 : Hid (Below w2.heap.size w2 w4) := (B3.out.trans b4); clear h4 b4))
          have HB4 : Hid (Below w.heap.size w w4) := HB2.out.trans (B4.out.mono HB2.out.size)
          have HSe : Hid (SeeC w4 (.slice ab NB kb) (l ++ m)) := see_row H4.out HLm.out fun i c hc => by
            by_cases hi : i < l.length
            · rw [List.getElem?_append_left hi] at hc
              obtain ⟨v, e1, e2⟩ := HKl.out.get i c hc
              refine ⟨v, ?_, e2.below B4.out⟩
              rw [List.nil_append, List.getElem?_append_left (by rw [HKl.out.length]; exact hi)]
              exact e1
            · rw [List.getElem?_append_right (by omega)] at hc
              obtain ⟨v, e1, e2⟩ := HKm.out.get _ c hc
              refine ⟨v, ?_, e2.below B4.out⟩
              rw [List.nil_append, List.getElem?_append_right (by rw [HKl.out.length]; omega), HKl.out.length]
              exact e1
          have HXd : Hid (w4.cell? ⟨h, M1, none⟩ = some (strV x)) := (B4.out.cell (p := ⟨h, M1, none⟩) HLt.out).trans HXc.out
          have HG : Hid (l ++ m ≠ [] → ∃ g, ab = some ⟨g, 0, none⟩ ∧ ∀ i c, (l ++ m)[i]? = some c → ∃ a k, w4.cell? ⟨g, i, none⟩ = some (.slice a c.length k)) := fun hne => by
            obtain ⟨a', c', e, f⟩ := HSe.out
            cases e
            obtain ⟨g, e1, _, e2⟩ := f hne
            refine ⟨g, e1, fun i c hc => ?_⟩
            obtain ⟨u, h1, a'', k'', e3, _⟩ := e2 i c hc
            exact ⟨a'', k'', by rw [h1, e3]⟩
          go_loopw [12, 14] (fun nv vi wr => ∃ i : Nat, i ≤ NB ∧ vi = .int .i64 i ∧ nv = .int .i64 ((wcount ((l ++ m).take i) : Nat) : Int) ∧ w4 = wr) (fun _ vi _ => NB - (intOf vi).toNat)
          case atStart => exact ⟨0, Nat.zero_le _, rfl, rfl, rfl⟩
          case round =>
            obtain ⟨i, hi, rfl, rfl, rfl⟩ := hrel
            by_cases hlt : i < NB
            · obtain ⟨ci, hci⟩ : ∃ c, (l ++ m)[i]? = some c := ⟨_, List.getElem?_eq_getElem (by rw [HLm.out]; exact hlt)⟩
              obtain ⟨g2, rfl, hg2⟩ := HG.out (fun e => by rw [e] at hci; simp at hci)
              obtain ⟨ac, kc, hcell⟩ := hg2 i ci hci
              have hwt := wcount_take _ _ _ hci
              have hwl := wcount_takes (l ++ m) (i + 1)
              have hwb := HWb.out
              obtain ⟨W0, hW0⟩ : ∃ x, wcount ((l ++ m).take i) = x := ⟨_, rfl⟩
              obtain ⟨W1, hW1⟩ : ∃ x, wcount ((l ++ m).take (i + 1)) = x := ⟨_, rfl⟩
              obtain ⟨Lc, hLc⟩ : ∃ x, ci.length = x := ⟨_, rfl⟩
              rw [hW0] at hwt ⊢
              rw [hW1] at hwt hwl
              rw [hLc] at hwt hcell
              have HW1 : Hid (wcount ((l ++ m).take (i + 1)) = W1) := hW1
              have hws : IntKind.i64.wrap ((W0 : Int) + (Lc : Int)) = (W1 : Int) := by rw [IntKind.wrap_i64]; omega
              clear hg2 hci hW0 hW1 hLc hwt
              go_wp2
              go_roundw
              case rel => exact ⟨i + 1, by omega, by go_num, by rw [HW1.out], by first | exact trivial | rfl⟩
              case measure => simp [intOf]; omega
            · have hie : i = NB := by omega
              have HWe : Hid (wcount ((l ++ m).take i) = wcount (l ++ m)) := by show _ = _; rw [hie, ← HLm.out, List.take_length]
              rw [HWe.out]
              obtain ⟨WT, hWT⟩ : ∃ x, wcount (l ++ m) = x := ⟨_, rfl⟩
              have HWT : Hid (wcount (l ++ m) = WT) := hWT
              rw [hWT]
              have hxd := HXd.out
              unfold strV at hxd
              obtain ⟨X, hXe⟩ : ∃ z, str x = z := ⟨_, rfl⟩
              have HXe : Hid (str x = X) := hXe
              rw [hXe] at hxd
              clear hie hWT hXe
              by_cases hX : X = ⟨#[101, 110, 100]⟩
              · subst hX
                by_cases h64 : 64 < WT
                · have d64 : decide ((64 : Int) < (WT : Int)) = true := decide_eq_true (by omega)
                  go_wp2_with fail
                  refine (HSu.out _).mono ?_
                  rintro e w9 ⟨rfl, hb9⟩
                  have HB9 : Hid (Below w.heap.size w w9) := HB4.out.trans (hb9.mono HB4.out.size)
                  clear hb9
                  go_wp2
                  go_ret
                  exact ⟨rfl, HB9.out⟩

                · have d64 : decide ((64 : Int) < (WT : Int)) = false := decide_eq_false (by omega)
                  by_cases h16 : 16 < NB
                  · have d16 : decide ((16 : Int) < (NB : Int)) = true := decide_eq_true (by omega)
                    go_wp2_with fail
                    refine (HSu.out _).mono ?_
                    rintro e w9 ⟨rfl, hb9⟩
                    have HB9 : Hid (Below w.heap.size w w9) := HB4.out.trans (hb9.mono HB4.out.size)
                    clear hb9
                    go_wp2
                    go_ret
                    exact ⟨rfl, HB9.out⟩

                  · have d16 : decide ((16 : Int) < (NB : Int)) = false := decide_eq_false (by omega)
                    have HTw : Hid ((cmdsF (a.data.toList ++ 32 :: endW)).1 ≠ (cmdsF (a.data.toList ++ 32 :: endW2)).1 → Hid (cmdsF (a.data.toList ++ 32 :: endW ++ 59 :: b.data.toList) = (l ++ m, 0, 0))) := fun hne => by
                      refine HTwo.out ?_ ?_ hne
                      · have hxe : x = endW := congrArg (fun z => z.data.toList) HXe.out
                        refine ⟨l.take N1, c.take M1, ?_⟩
                        rw [← hxe, ← by_last c M1 x (by rw [HMl.out]; exact HML.out) HX.out, ← by_last l N1 c (by rw [HN.out]; exact HN1.out) HCc.out]
                      · rw [HLm.out, HWT.out]
                        omega
                    go_wp2_with fail
                    refine (HRk.out _).mono ?_
                    rintro e w5 ⟨bb, rfl, hbt, hb5⟩
                    have HB5 : Hid (Below w.heap.size w w5) := HB4.out.trans (hb5.mono HB4.out.size)
                    have HS5 : Hid (SeeC w5 (.slice ab NB kb) (l ++ m)) := HSe.out.below hb5
                    cases bb with
                    | true =>
                      clear hb5 hbt
                      go_wp2_with fail
                      refine (HSu.out _).mono ?_
                      rintro e w9 ⟨rfl, hb9⟩
                      have HB9 : Hid (Below w.heap.size w w9) := HB5.out.trans (hb9.mono HB5.out.size)
                      clear hb9
                      go_wp2
                      go_ret
                      exact ⟨rfl, HB9.out⟩

                    | false =>
                      have HC5 := HCT.out (HTw.out fun e => by cases hbt e)
                      clear hb5 hbt
                      go_wp2_with fail
                      refine (HC5.out _).mono ?_
                      rintro e w6 ⟨v6, rfl, hv6, hb6⟩
                      have HB6 : Hid (Below w.heap.size w w6) := HB5.out.trans (hb6.mono HB5.out.size)
                      have HS6 : Hid (SeeC w6 (.slice ab NB kb) (l ++ m)) := HS5.out.below hb6
                      have HV6 : Hid (SeeC w6 v6 (l ++ m)) := hv6
                      clear hb6 hv6
                      go_wp2_with fail
                      refine (HSm.out _ _ _ HV6.out HS6.out).mono ?_
                      rintro e w7 ⟨rfl, hb7⟩
                      have HB7 : Hid (Below w.heap.size w w7) := HB6.out.trans (hb7.mono HB6.out.size)
                      clear hb7
                      go_wp2
                      go_ret
                      exact ⟨rfl, HB7.out⟩
              · have hX2 : ¬ X.toList = [101, 110, 100] := fun e => hX (by
                  rw [Lib.toList_data] at e
                  cases X with
                  | mk d =>
                    congr 1
                    exact Array.toList_inj.1 e)
                clear hX
                go_wp2_with fail
                refine (HSu.out _).mono ?_
                rintro e w9 ⟨rfl, hb9⟩
                have HB9 : Hid (Below w.heap.size w w9) := HB4.out.trans (hb9.mono HB4.out.size)
                clear hb9
                go_wp2
                go_ret
                exact ⟨rfl, HB9.out⟩


    · have e0 : ((er2 : Int) != 0) = true := by
        have : (er2 : Int) ≠ 0 := by omega
        simpa using this
      clear h1 h2 hN z1 had hbd
      go_enter Try.func4, Try.ntmps4
      go_wp2_with fail
      refine (HC1.out _).mono ?_
      rintro e w1 ⟨v1, rfl, hv1, hb1⟩
      obtain ⟨va, vk, rfl⟩ : ∃ x z, v1 = .slice x N z := by
        obtain ⟨vs, h, _⟩ := hv1
        rw [HN.out] at h
        exact row_slice h
      have HV1 : Hid (CmdsAt w1 w.heap.size (.slice va N vk) l) := hv1
      have HB1 : Hid (Below w.heap.size w w1) := hb1
      clear hv1 hb1
      go_wp2_with fail
      refine (HC2.out _).mono ?_
      rintro e w2 ⟨v2, rfl, hv2, hb2⟩
      have HV2 : Hid (CmdsAt w2 w.heap.size (.slice va N vk) l) := HV1.out.under hb2
      have HB2 : Hid (Below w.heap.size w w2) := HB1.out.trans (hb2.mono HB1.out.size)
      have HM2 : Hid (CmdsAt w2 w1.heap.size v2 m) := hv2
      clear hv2 hb2
      go_wp2_with fail
      refine (HSu.out _).mono ?_
      rintro e w9 ⟨rfl, hb9⟩
      have HB9 : Hid (Below w.heap.size w w9) := HB2.out.trans (hb9.mono HB2.out.size)
      clear hb9
      go_wp2
      go_ret
      exact ⟨rfl, HB9.out⟩

  · have e0 : ((er : Int) != 0) = true := by
      have : (er : Int) ≠ 0 := by omega
      simpa using this
    clear h1 h2 hN z1 had hbd
    go_enter Try.func4, Try.ntmps4
    go_wp2_with fail
    refine (HC1.out _).mono ?_
    rintro e w1 ⟨v1, rfl, hv1, hb1⟩
    obtain ⟨va, vk, rfl⟩ : ∃ x z, v1 = .slice x N z := by
      obtain ⟨vs, h, _⟩ := hv1
      rw [HN.out] at h
      exact row_slice h
    have HV1 : Hid (CmdsAt w1 w.heap.size (.slice va N vk) l) := hv1
    have HB1 : Hid (Below w.heap.size w w1) := hb1
    clear hv1 hb1
    go_wp2_with fail
    refine (HC2.out _).mono ?_
    rintro e w2 ⟨v2, rfl, hv2, hb2⟩
    have HV2 : Hid (CmdsAt w2 w.heap.size (.slice va N vk) l) := HV1.out.under hb2
    have HB2 : Hid (Below w.heap.size w w2) := HB1.out.trans (hb2.mono HB1.out.size)
    have HM2 : Hid (CmdsAt w2 w1.heap.size v2 m) := hv2
    clear hv2 hb2
    go_wp2_with fail
    refine (HSu.out _).mono ?_
    rintro e w9 ⟨rfl, hb9⟩
    have HB9 : Hid (Below w.heap.size w w9) := HB2.out.trans (hb9.mono HB2.out.size)
    clear hb9
    go_wp2
    go_ret
    exact ⟨rfl, HB9.out⟩


end Go.Proofs.Ytjlhdnaebdkalab
