/-
  Formats: how far a text has been said (pure).
  Formats: the document's expand.
  Formats: the document's expand, its loop.
-/
import Derived.Test.YtlfcjcaofhcfnaaGreatDoorGQ
import Derived.Test.YtlfcjcaofhcfnaaGreatDoorIB
import Derived.Test.YtlfcjcaofhcfnaaGreatDoorIE
import Derived.Test.YtlfcjcaofhcfnaaGreatDoorIC
import Derived.Deep.DeepCutAuto
namespace Go.Proofs.YtlfcjcaofhcfnaaGreatDoor
set_option linter.unusedVariables false
set_option maxRecDepth 100000

structure LBi (pl : List UInt8 → Res) (vs : Vars) (l : List UInt8) (i : Nat) (out : List UInt8) (R : Except Int (List UInt8)) : Prop where
  all : loopB pl vs (l.length - i) (l.drop i) out = some R
  len : out.length ≤ 1024
  le : i ≤ l.length
theorem LBi.open {pl : List UInt8 → Res} {vs : Vars} {l : List UInt8} {i : Nat} {out : List UInt8} {R : Except Int (List UInt8)} (h : LBi pl vs l i out R) (hi : i < l.length) : ∃ f, l.length - i = f + 1 ∧ (match saidN pl vs (l.drop i) (nextB (l.drop i)) with
    | none => none
    | some (.error e) => some (.error e)
    | some (.ok (s, n)) => if 1024 < out.length + s.length then some (.error 2) else loopB pl vs f ((l.drop i).drop n) (out ++ s)) = some R := by
  obtain ⟨f, hf⟩ : ∃ f, l.length - i = f + 1 := ⟨l.length - i - 1, by omega⟩
  have h1 := h.all
  have hne : l.drop i ≠ [] := fun e => by have := congrArg List.length e; rw [List.length_drop] at this; simp at this; omega
  rw [hf] at h1
  unfold loopB at h1
  rw [if_neg hne] at h1
  exact ⟨f, hf, h1⟩
theorem LBi.step {pl : List UInt8 → Res} {vs : Vars} {l : List UInt8} {i : Nat} {out : List UInt8} {R : Except Int (List UInt8)} (h : LBi pl vs l i out R) (hi : i < l.length) {s : List UInt8} {m : Nat} (hs : saidN pl vs (l.drop i) (nextB (l.drop i)) = some (.ok (s, m))) (hb : ¬ 1024 < out.length + s.length) : LBi pl vs l (i + m) (out ++ s) R := by
  obtain ⟨f, hf, h1⟩ := h.open hi
  have hne : l.drop i ≠ [] := fun e => by have := congrArg List.length e; rw [List.length_drop] at this; simp at this; omega
  obtain ⟨m1, m2⟩ := nextB_pos hne hs
  rw [List.length_drop] at m2
  rw [hs] at h1
  simp only [if_neg hb] at h1
  rw [List.drop_drop] at h1
  refine ⟨?_, by rw [List.length_append]; omega, by omega⟩
  rw [fuelB pl vs (l.length - (i + m)) f (l.drop (i + m)) _ (by rw [List.length_drop]; omega) (by rw [List.length_drop]; omega)]
  exact h1
theorem LBi.long {pl : List UInt8 → Res} {vs : Vars} {l : List UInt8} {i : Nat} {out : List UInt8} {R : Except Int (List UInt8)} (h : LBi pl vs l i out R) (hi : i < l.length) {s : List UInt8} {m : Nat} (hs : saidN pl vs (l.drop i) (nextB (l.drop i)) = some (.ok (s, m))) (hb : 1024 < out.length + s.length) : R = .error 2 := by
  obtain ⟨f, hf, h1⟩ := h.open hi
  rw [hs] at h1
  simp only [if_pos hb] at h1
  exact (Option.some.inj h1).symm
theorem LBi.err {pl : List UInt8 → Res} {vs : Vars} {l : List UInt8} {i : Nat} {out : List UInt8} {R : Except Int (List UInt8)} (h : LBi pl vs l i out R) (hi : i < l.length) {e : Int} (hs : saidN pl vs (l.drop i) (nextB (l.drop i)) = some (.error e)) : R = .error e := by
  obtain ⟨f, hf, h1⟩ := h.open hi
  rw [hs] at h1
  exact (Option.some.inj h1).symm
theorem LBi.done {pl : List UInt8 → Res} {vs : Vars} {l : List UInt8} {i : Nat} {out : List UInt8} {R : Except Int (List UInt8)} (h : LBi pl vs l i out R) (hi : l.length ≤ i) : R = .ok out := by
  have h1 := h.all
  rw [List.drop_eq_nil_of_le hi, loopB_nil] at h1
  exact (Option.some.inj h1).symm

end Go.Proofs.YtlfcjcaofhcfnaaGreatDoor

namespace Go.Proofs.YtlfcjcaofhcfnaaGreatDoor
open Go.RowKit
set_option linter.unusedVariables false
set_option maxRecDepth 100000

theorem said_one {pl : List UInt8 → Res} {vs : Vars} {l : List UInt8} {i : Nat} {c : UInt8} (hc : l[i]? = some c) (h : c.toNat ≠ 35 ∨ l.length ≤ i + 1) : saidN pl vs (l.drop i) (nextB (l.drop i)) = some (.ok ([c], 1)) := by
  rw [drop_two hc]
  have e : nextB (c :: l.drop (i + 1)) = .says [c] 1 := by
    rcases h with h | h
    · exact nextB_plain h _
    · rw [List.drop_eq_nil_of_le h]; rfl
  rw [e]; rfl
theorem said_two {pl : List UInt8 → Res} {vs : Vars} {l : List UInt8} {i : Nat} {c d : UInt8} (hc : l[i]? = some c) (hd : l[i + 1]? = some d) (h : c.toNat = 35) : (d.toNat = 35 ∨ d.toNat = 44 ∨ d.toNat = 125 → saidN pl vs (l.drop i) (nextB (l.drop i)) = some (.ok ([d], 2))) ∧ (¬ (d.toNat = 35 ∨ d.toNat = 44 ∨ d.toNat = 125) → d.toNat ≠ 123 → shortF d ≠ [] → saidN pl vs (l.drop i) (nextB (l.drop i)) = some (.ok (valF vs (shortF d), 2))) ∧ (¬ (d.toNat = 35 ∨ d.toNat = 44 ∨ d.toNat = 125) → d.toNat ≠ 123 → shortF d = [] → saidN pl vs (l.drop i) (nextB (l.drop i)) = some (.ok ([c], 1))) := by
  rw [drop_two hc, drop_two hd]
  refine ⟨fun h1 => ?_, fun h1 h2 h3 => ?_, fun h1 h2 h3 => ?_⟩
  · simp only [nextB, if_pos h, if_pos h1]; rfl
  · simp only [nextB, if_pos h, if_neg h1, if_neg h2, if_pos h3]; rfl
  · simp only [nextB, if_pos h, if_neg h1, if_neg h2]
    rw [if_neg (fun k => k h3)]; rfl
theorem said_place {pl : List UInt8 → Res} {vs : Vars} {l : List UInt8} {i : Nat} {c d : UInt8} (hc : l[i]? = some c) (hd : l[i + 1]? = some d) (h : c.toNat = 35) (h2 : d.toNat = 123) : saidN pl vs (l.drop i) (nextB (l.drop i)) = match insideF (l.drop (i + 2)) with
    | none => some (.error 100)
    | some k => match pl ((l.drop (i + 2)).take k) with
      | none => none
      | some (.error e) => some (.error e)
      | some (.ok s) => some (.ok (s, k + 3)) := by
  rw [drop_two hc, drop_two hd]
  have e : nextB (c :: d :: l.drop (i + 1 + 1)) = .place := by
    simp only [nextB, if_pos h]
    rw [if_neg (by omega), if_pos h2]
  rw [e]
  rfl

end Go.Proofs.YtlfcjcaofhcfnaaGreatDoor

namespace Go.Proofs.YtlfcjcaofhcfnaaGreatDoor
open Go.RowKit
set_option linter.unusedVariables false
set_option maxRecDepth 100000

theorem plG_told (vs : Vars) : ∀ r, Told (plG vs r)
  | 0 => fun _ => ⟨_, rfl⟩
  | r + 1 => place_told (say_told vs r) vs
theorem plG_bad (vs : Vars) : ∀ r l, Bad (plG vs r l)
  | 0, l => bad_err (by decide)
  | r + 1, l => bad_place (bad_say vs r) vs l
theorem plG_short {vs : Vars} (hv : ∀ p ∈ vs, p.2.length ≤ 2147483647) : ∀ {r : Nat} {l s : List UInt8}, l.length ≤ 2147483647 → plG vs r l = some (.ok s) → s.length ≤ 2147483647
  | 0, _, _, _, h => by cases h
  | r + 1, l, s, hl, h => place_short hv hl h
theorem inside_lt {l : List UInt8} {k : Nat} (h : insideF l = some k) : k < l.length := by
  exact insideF_lt h
set_option maxHeartbeats 16000000 in
theorem expandR_step {vs : Vars} {sv : Value} {r : Nat} {D : Int} (hD : D = 16 - (r : Int)) (hr : r ≤ 16) (hP : r ≠ 0 → ∀ (p : List UInt8) (w : World), RE w sv vs → p.length ≤ 1048576 → balF p = true → Calls Tryz.prog 26 #[.string (str p), sv, .int .i64 D] w fun e w' => e = ansF (resF (plG vs r p)) ∧ Below w.heap.size w w') : SayR vs sv r D := by
  intro l w hE hl
  obtain ⟨R, hR⟩ := say_told vs r l
  have HI0 : Hid (LBi (plG vs r) vs l 0 [] R) := ⟨by rw [Nat.sub_zero, List.drop_zero, ← say_byte]; exact hR, by simp, Nat.zero_le _⟩
  have hre : resF (sayF vs r l) = R := by rw [hR]; rfl
  rw [hre]
  have HE := hidK hE
  have HP := hidK hP
  have HDr := hidK hD
  have hs : (str l).size = l.length := rfl
  have HG : Hid (∀ (i : Nat) (c : UInt8), l[i]? = some c → ∀ h : i < (str l).size, (str l)[i] = c) := fun i c hc h => str_getF l i c hc h
  have HM : Hid (∀ i j, (str l).extract i j = str ((l.drop i).take (j - i))) := str_midF l
  have HO : Hid (∀ (i : Nat) (c : UInt8), l[i]? = some c → (str l).extract i (i + 1) = str [c]) := fun i c hc => by
    rw [str_midF l i (i + 1), drop_two hc, show i + 1 - i = 1 by omega]; rfl
  have HEn := hidK fun (k : Nat) (hk : k ≤ l.length) W => endR_any l (by omega) k hk W
  obtain ⟨z, hz⟩ : ∃ z, str l = z := ⟨_, rfl⟩
  rw [hz] at hs HG HM HO HEn ⊢
  obtain ⟨n, hn⟩ : ∃ n, l.length = n := ⟨_, rfl⟩
  have HN := hidK hn
  rw [hn] at hs hl HEn
  have hDa : 0 ≤ D := by omega
  have hDb : D ≤ 16 := by omega
  clear hz hre hR hE hP hn hD
  go_enter Tryz.func12, Tryz.ntmps12
  go_wp2_with fail
  go_loopw [8, 9] (fun s8 s9 wx => ∃ (i : Nat) (out : List UInt8), i ≤ n ∧ s9 = .int .i64 (i : Int) ∧ s8 = .string (str out) ∧ Hid (LBi (plG vs r) vs l i out R) ∧ Hid (Below w.heap.size w wx)) (fun _ v _ => n - (intOf v).toNat)
  case atStart => exact ⟨0, [], Nat.zero_le _, rfl, rfl, HI0.out, Below.refl _ _⟩
  case round =>
    obtain ⟨i, out, hi, rfl, rfl, HI, HB⟩ := hrel
    have hout := HI.out.len
    by_cases hin0 : i < n
    · have hin : i < l.length := by rw [HN.out]; exact hin0
      obtain ⟨c, hc⟩ : ∃ c, l[i]? = some c := ⟨_, List.getElem?_eq_getElem hin⟩
      have hiz : i < z.size := by omega
      have gc := HG.out i c hc hiz
      have ec := HO.out i c hc
      by_cases hcc : c.toNat = 35 ∧ i + 1 < n
      · obtain ⟨hc35, hi1⟩ := hcc
        obtain ⟨d, hd⟩ : ∃ d, l[i + 1]? = some d := ⟨_, List.getElem?_eq_getElem (by rw [HN.out]; exact hi1)⟩
        have hc35i : (c.toNat : Int) = 35 := by omega
        have hi1i : (i : Int) + 1 < (n : Int) := by omega
        have hi1z : i + 1 < z.size := by omega
        have gd := HG.out (i + 1) d hd hi1z
        have ed : z.extract (i + 1) (i + 2) = str [d] := HO.out (i + 1) d hd
        have HSh := hidK fun W => shortR_any d W
        have hnl := str_toList (shortF d)
        obtain ⟨zn, hzn⟩ : ∃ z, str (shortF d) = z := ⟨_, rfl⟩
        rw [hzn] at HSh hnl
        obtain ⟨t1, t2, t3⟩ := said_two (pl := plG vs r) (vs := vs) hc hd hc35
        have tp := said_place (pl := plG vs r) (vs := vs) hc hd hc35
        have T1 := hidK t1
        have T2 := hidK t2
        have T3 := hidK t3
        have TP := hidK tp
        have HNL := hidK hnl
        have HZN := hidK hzn
        obtain ⟨zc1, hzc1⟩ : ∃ z, str [c] = z := ⟨_, rfl⟩
        have HZC1 := hidK hzc1
        rw [hzc1] at ec
        obtain ⟨zd1, hzd1⟩ : ∃ z, str [d] = z := ⟨_, rfl⟩
        have HZD1 := hidK hzd1
        rw [hzd1] at ed
        clear hc hd t1 t2 t3 tp hnl hzn hzc1 hzd1
        go_upto_if 36 with fail
        go_cut [10, 11] (fun s10 s11 wx => ∃ (S : List UInt8) (M : Nat), s10 = .string (str S) ∧ s11 = .int .i64 (M : Int) ∧ Hid (saidN (plG vs r) vs (l.drop i) (nextB (l.drop i)) = some (.ok (S, M))) ∧ S.length ≤ 2147483647 ∧ 1 ≤ M ∧ i + M ≤ n ∧ Hid (Below w.heap.size w wx))
        case rest =>
          obtain ⟨S, M, rfl, rfl, HSd, hslen, hM1, hMn, HB2⟩ := hcut
          obtain ⟨zs, hzs⟩ : ∃ z, str S = z := ⟨_, rfl⟩
          rw [hzs]
          clear gd ed HSh T1 T2 T3 TP HNL HZN HZD1 gc ec HZC1
          have hS1 : (str (S)).size = (S).length := rfl
          have hC1 : str out ++ str (S) = str (out ++ S) := str_cat out (S)
          have hC2 : (str (out ++ S)).size = out.length + (S).length := List.length_append
          have hO1 : (str out).size = out.length := rfl
          obtain ⟨sl, hsl⟩ : ∃ n, (S).length = n := ⟨_, rfl⟩
          obtain ⟨ol, hol⟩ : ∃ n, out.length = n := ⟨_, rfl⟩
          rw [hsl] at hS1 hC2 hslen
          rw [hol] at hO1 hC2 hout
          obtain ⟨zc, hzc⟩ : ∃ z, str (out ++ S) = z := ⟨_, rfl⟩
          have HZc := hidK hzc
          obtain ⟨zo, hzo⟩ : ∃ z, str out = z := ⟨_, rfl⟩
          rw [hzc] at hC1 hC2
          rw [hzo] at hC1 hO1 ⊢
          rw [hzs] at hC1 hS1
          have d2 : ¬ 9223372036854775807 < zo.size + zs.size := by omega
          by_cases hbig : 1024 < ol + sl
          · have HQ := hidK (HI.out.long hin HSd.out (by rw [hol, hsl]; exact hbig))
            clear hsl hol hzc hzo hzs HI
            go_wp2_with fail
            all_goals go_ret2
            all_goals exact ⟨by rw [HQ.out]; rfl, HB2.out⟩
          · have HI2 := hidK (HI.out.step hin HSd.out (by rw [hol, hsl]; exact hbig))
            clear hsl hol hzc hzo hzs HI
            go_wp2_with fail
            all_goals (
              go_roundw
              case rel => exact ⟨i + M, _, Nat.le_trans HI2.out.le (Nat.le_of_eq HN.out), by go_num, by rw [← HZc.out], HI2.out, HB2.out⟩
              case measure => simp [intOf]; omega)
        case first =>
          by_cases h2 : d.toNat = 35 ∨ d.toNat = 44 ∨ d.toNat = 125
          · have HSd := hidK (T1.out h2)
            clear T1 T2 T3 TP HNL HZN
            have h2' : ((d.toNat : Int) = 35) ∨ (¬ (d.toNat : Int) = 35 ∧ (d.toNat : Int) = 44) ∨ (¬ (d.toNat : Int) = 35 ∧ ¬ (d.toNat : Int) = 44 ∧ (d.toNat : Int) = 125) := by omega
            clear h2
            have hb3 : (((d.toNat : Int) == 35) = true) ∨ (((d.toNat : Int) == 35) = false ∧ ((d.toNat : Int) == 44) = true) ∨ (((d.toNat : Int) == 35) = false ∧ ((d.toNat : Int) == 44) = false ∧ ((d.toNat : Int) == 125) = true) := by
              rcases h2' with k1 | ⟨k1, k2⟩ | ⟨k1, k2, k3⟩
              · exact .inl (by simp [k1])
              · exact .inr (.inl ⟨by simp [k1], by simp [k2]⟩)
              · exact .inr (.inr ⟨by simp [k1], by simp [k2], by simp [k3]⟩)
            clear h2'
            rcases hb3 with k1 | ⟨k1, k2⟩ | ⟨k1, k2, k3⟩
            all_goals (
              go_wp2_with fail
              refine (HSh.out _).mono ?_
              rintro e w1 ⟨rfl, rfl⟩
              go_wp2_with fail
              go_meet
              exact ⟨[d], 2, by rw [ed, ← HZD1.out], rfl, HSd.out, by simp, by omega, by omega, HB.out⟩)
          · have n1 : ¬ (d.toNat : Int) = 35 := by omega
            have n2 : ¬ (d.toNat : Int) = 44 := by omega
            have n3 : ¬ (d.toNat : Int) = 125 := by omega
            have b1 : ((d.toNat : Int) == 35) = false := by simp [n1]
            have b2 : ((d.toNat : Int) == 44) = false := by simp [n2]
            have b3 : ((d.toNat : Int) == 125) = false := by simp [n3]
            by_cases h3 : d.toNat = 123
            · have b4 : ((d.toNat : Int) == 123) = true := by simp [h3]
              have tp := TP.out h3
              have hEn := fun W => HEn.out (i + 2) (by omega) W
              have hcast : ((i + 2 : Nat) : Int) = (i : Int) + 2 := by omega
              rw [hcast] at hEn
              clear hcast T1 T2 T3 TP HNL HZN HZD1 h2 h3
              cases hin2 : insideF (l.drop (i + 2)) with
              | none =>
                rw [hin2] at tp hEn
                have HQ := hidK (HI.out.err hin tp)
                have HEn2 := hidK hEn
                clear hEn tp hin2
                go_wp2_with fail
                refine (HSh.out _).mono ?_
                rintro e w1 ⟨rfl, rfl⟩
                go_wp2_with fail
                refine (HEn2.out _).mono ?_
                rintro e w1 ⟨rfl, rfl⟩
                simp only [endI]
                go_wp2_with fail
                all_goals go_ret2
                all_goals exact ⟨by rw [HQ.out]; rfl, HB.out⟩
              | some j =>
                rw [hin2] at tp hEn
                dsimp only at tp
                have hj := inside_lt hin2
                rw [List.length_drop, HN.out] at hj
                have hbal := bal_inside hin2
                have hplen : ((l.drop (i + 2)).take j).length ≤ 1048576 := by rw [List.length_take, List.length_drop, HN.out]; omega
                obtain ⟨X, hX⟩ := plG_told vs r ((l.drop (i + 2)).take j)
                have hXb := plG_bad vs r ((l.drop (i + 2)).take j)
                have hXs : ∀ s, plG vs r ((l.drop (i + 2)).take j) = some (.ok s) → s.length ≤ 2147483647 := fun s h => plG_short HE.out.short (by omega) h
                have hex : z.extract (i + 2) (i + 2 + j) = str ((l.drop (i + 2)).take j) := by rw [HM.out, show i + 2 + j - (i + 2) = j by omega]
                have hEn2 : ∀ W, Calls Tryz.prog 25 #[.string z, .int .i64 ((i : Int) + 2)] W fun e w' => e = .returned (.int .i64 ((i : Int) + 2 + j)) ∧ W = w' := fun W => (hEn W).mono fun e w' ⟨h1, h2⟩ => ⟨by rw [h1]; simp only [endI]; rw [show ((i + 2 + j : Nat) : Int) = (i : Int) + 2 + j by omega], h2⟩
                have HEn2 := hidK hEn2
                clear hEn hEn2 hin2
                obtain ⟨kk, hkk⟩ : ∃ k : Nat, i + 2 + j = k := ⟨_, rfl⟩
                have hkki : (i : Int) + 2 + j = (kk : Int) := by omega
                rw [hkki] at HEn2
                rw [hkk] at hex
                have hk1 : i + 2 ≤ kk := by omega
                have hk2 : kk < n := by omega
                by_cases hr0 : r = 0
                · have hD16 : D = 16 := by have := HDr.out; omega
                  have HQ : Hid (R = .error 101) := HI.out.err hin (by rw [tp]; subst hr0; rfl)
                  clear tp hX hXb hXs hex hkk hkki HDr HP
                  subst hD16
                  go_wp2_with fail
                  refine (HSh.out _).mono ?_
                  rintro e w1 ⟨rfl, rfl⟩
                  go_wp2_with fail
                  refine (HEn2.out _).mono ?_
                  rintro e w1 ⟨rfl, rfl⟩
                  go_wp2_with fail
                  all_goals go_ret2
                  all_goals exact ⟨by rw [HQ.out]; rfl, HB.out⟩
                · have hD15 : D < 16 := by have := HDr.out; omega
                  obtain ⟨p, hp⟩ : ∃ p, (l.drop (i + 2)).take j = p := ⟨_, rfl⟩
                  rw [hp] at tp hX hXb hXs hex hbal hplen
                  rw [hX] at tp hXb hXs
                  have hPl := HP.out hr0 p
                  rw [hX] at hPl
                  obtain ⟨zp, hzp⟩ : ∃ z, str p = z := ⟨_, rfl⟩
                  rw [hzp] at hex hPl
                  have HPl : Hid (∀ W, Below w.heap.size w W → Calls Tryz.prog 26 #[.string zp, sv, .int .i64 D] W fun e w' => e = ansF X ∧ Below w.heap.size w w') := fun W hb => (hPl W (HE.out.below hb) hplen hbal).mono fun e w' ⟨h1, h2⟩ => ⟨h1, hb.trans (h2.mono hb.size)⟩
                  clear hPl hX hp hzp hbal hplen HP HDr hkki
                  cases X with
                  | error q =>
                    have hq0 : ¬ q = 0 := hXb q rfl
                    have HQ := hidK (HI.out.err hin tp)
                    clear tp hXb hXs hkk
                    go_wp2_with fail
                    refine (HSh.out _).mono ?_
                    rintro e w1 ⟨rfl, rfl⟩
                    go_wp2_with fail
                    refine (HEn2.out _).mono ?_
                    rintro e w1 ⟨rfl, rfl⟩
                    go_wp2_with fail
                    refine (HPl.out _ HB.out).mono ?_
                    rintro e w2 ⟨rfl, hb2⟩
                    have HB2 := hidK hb2
                    clear hb2
                    simp only [ansF]
                    go_wp2_with fail
                    all_goals go_ret2
                    all_goals exact ⟨by rw [HQ.out]; rfl, HB2.out⟩
                  | ok s =>
                    have hsl := hXs s rfl
                    have HSd := hidK tp
                    have HK := hidK hkk
                    clear tp hXb hXs hkk
                    obtain ⟨zq, hzq⟩ : ∃ z, str s = z := ⟨_, rfl⟩
                    have HZQ := hidK hzq
                    have hans : ansF (.ok s) = .returned (.tuple #[.string zq, .int .i64 0]) := by rw [← hzq]; rfl
                    rw [hans] at HPl
                    clear hans hzq
                    have hm1 : IntKind.i64.wrap ((kk : Int) + 1 - i) = ((kk + 1 - i : Nat) : Int) := by simp only [IntKind.wrap, IntKind.bits, IntKind.signed]; simp; omega
                    go_wp2_with fail
                    refine (HSh.out _).mono ?_
                    rintro e w1 ⟨rfl, rfl⟩
                    go_wp2_with fail
                    refine (HEn2.out _).mono ?_
                    rintro e w1 ⟨rfl, rfl⟩
                    go_wp2_with fail
                    refine (HPl.out _ HB.out).mono ?_
                    rintro e w2 ⟨rfl, hb2⟩
                    have HB2 := hidK hb2
                    clear hb2
                    go_wp2_with fail
                    go_meet
                    exact ⟨s, j + 3, by rw [← HZQ.out], by have := HK.out; go_num, HSd.out, hsl, by omega, by have := HK.out; omega, HB2.out⟩
            · have b4 : ((d.toNat : Int) == 123) = false := by simp; omega
              by_cases h4 : shortF d = []
              · have HSd := hidK (T3.out h2 h3 h4)
                have m1 : zn.toList = [] := by rw [HNL.out, h4]
                have m2 : zn.toList.isEmpty = true := by rw [m1]; rfl
                clear T1 T2 T3 TP HNL HZN HZD1 h2 h3 h4
                go_wp2_with fail
                refine (HSh.out _).mono ?_
                rintro e w1 ⟨rfl, rfl⟩
                go_wp2_with fail
                go_meet
                exact ⟨[c], 1, by rw [← HZC1.out], rfl, HSd.out, by simp, by omega, by omega, HB.out⟩
              · have HSd := hidK (T2.out h2 h3 h4)
                have m1 : ¬ zn.toList = [] := by rw [HNL.out]; exact h4
                have m2 : zn.toList.isEmpty = false := by rw [HNL.out]; cases hh : shortF d with | nil => exact absurd hh h4 | cons _ _ => rfl
                have hslen : (valF vs (shortF d)).length ≤ 2147483647 := val_short HE.out.short _
                have HV := hidK (valueR_any (HE.out.below HB.out).vars (shortF d))
                rw [HZN.out] at HV
                obtain ⟨zs, hzs⟩ : ∃ z, str (valF vs (shortF d)) = z := ⟨_, rfl⟩
                rw [hzs] at HV
                have HZS := hidK hzs
                clear T1 T2 T3 TP HNL HZN HZD1 h2 h3 h4 hzs
                go_wp2_with fail
                refine (HSh.out _).mono ?_
                rintro e w1 ⟨rfl, rfl⟩
                go_wp2_with fail
                refine HV.out.mono ?_
                rintro e w2 ⟨rfl, hb2⟩
                have HB2 := hidK (HB.out.trans (hb2.mono HB.out.size))
                clear hb2
                go_wp2_with fail
                go_meet
                exact ⟨valF vs (shortF d), 2, by rw [← HZS.out], rfl, HSd.out, hslen, by omega, by omega, HB2.out⟩
      · have HSd := hidK (said_one (pl := plG vs r) (vs := vs) hc (by have := HN.out; omega))
        have hcases : ¬ (c.toNat : Int) = 35 ∨ ((c.toNat : Int) = 35 ∧ ¬ ((i : Int) + 1 < (n : Int))) := by omega
        have hslen : ([c] : List UInt8).length ≤ 2147483647 := by simp
        obtain ⟨zs, hzs⟩ : ∃ z, str [c] = z := ⟨_, rfl⟩
        rw [hzs] at ec
        clear hcc hc
        rcases hcases with k1 | ⟨k1, k2⟩
        · have hS1 : (str ([c])).size = ([c]).length := rfl
          have hC1 : str out ++ str ([c]) = str (out ++ [c]) := str_cat out ([c])
          have hC2 : (str (out ++ [c])).size = out.length + ([c]).length := List.length_append
          have hO1 : (str out).size = out.length := rfl
          obtain ⟨sl, hsl⟩ : ∃ n, ([c]).length = n := ⟨_, rfl⟩
          obtain ⟨ol, hol⟩ : ∃ n, out.length = n := ⟨_, rfl⟩
          rw [hsl] at hS1 hC2 hslen
          rw [hol] at hO1 hC2 hout
          obtain ⟨zc, hzc⟩ : ∃ z, str (out ++ [c]) = z := ⟨_, rfl⟩
          have HZc := hidK hzc
          obtain ⟨zo, hzo⟩ : ∃ z, str out = z := ⟨_, rfl⟩
          rw [hzc] at hC1 hC2
          rw [hzo] at hC1 hO1 ⊢
          rw [hzs] at hC1 hS1
          have d2 : ¬ 9223372036854775807 < zo.size + zs.size := by omega
          by_cases hbig : 1024 < ol + sl
          · have HQ := hidK (HI.out.long hin HSd.out (by rw [hol, hsl]; exact hbig))
            clear hsl hol hzc hzo hzs HI
            go_wp2_with fail
            all_goals go_ret2
            all_goals exact ⟨by rw [HQ.out]; rfl, HB.out⟩
          · have HI2 := hidK (HI.out.step hin HSd.out (by rw [hol, hsl]; exact hbig))
            clear hsl hol hzc hzo hzs HI
            go_wp2_with fail
            all_goals (
              go_roundw
              case rel => exact ⟨i + 1, _, Nat.le_trans HI2.out.le (Nat.le_of_eq HN.out), by go_num, by rw [← HZc.out], HI2.out, HB.out⟩
              case measure => simp [intOf]; omega)
        · have hS1 : (str ([c])).size = ([c]).length := rfl
          have hC1 : str out ++ str ([c]) = str (out ++ [c]) := str_cat out ([c])
          have hC2 : (str (out ++ [c])).size = out.length + ([c]).length := List.length_append
          have hO1 : (str out).size = out.length := rfl
          obtain ⟨sl, hsl⟩ : ∃ n, ([c]).length = n := ⟨_, rfl⟩
          obtain ⟨ol, hol⟩ : ∃ n, out.length = n := ⟨_, rfl⟩
          rw [hsl] at hS1 hC2 hslen
          rw [hol] at hO1 hC2 hout
          obtain ⟨zc, hzc⟩ : ∃ z, str (out ++ [c]) = z := ⟨_, rfl⟩
          have HZc := hidK hzc
          obtain ⟨zo, hzo⟩ : ∃ z, str out = z := ⟨_, rfl⟩
          rw [hzc] at hC1 hC2
          rw [hzo] at hC1 hO1 ⊢
          rw [hzs] at hC1 hS1
          have d2 : ¬ 9223372036854775807 < zo.size + zs.size := by omega
          by_cases hbig : 1024 < ol + sl
          · have HQ := hidK (HI.out.long hin HSd.out (by rw [hol, hsl]; exact hbig))
            clear hsl hol hzc hzo hzs HI
            go_wp2_with fail
            all_goals go_ret2
            all_goals exact ⟨by rw [HQ.out]; rfl, HB.out⟩
          · have HI2 := hidK (HI.out.step hin HSd.out (by rw [hol, hsl]; exact hbig))
            clear hsl hol hzc hzo hzs HI
            go_wp2_with fail
            all_goals (
              go_roundw
              case rel => exact ⟨i + 1, _, Nat.le_trans HI2.out.le (Nat.le_of_eq HN.out), by go_num, by rw [← HZc.out], HI2.out, HB.out⟩
              case measure => simp [intOf]; omega)
    · obtain rfl : i = n := by omega
      have HQ := hidK (HI.out.done (by rw [HN.out]; exact Nat.le_refl _))
      go_wp2_with fail
      all_goals go_ret2
      all_goals exact ⟨by rw [HQ.out]; rfl, HB.out⟩

end Go.Proofs.YtlfcjcaofhcfnaaGreatDoor
