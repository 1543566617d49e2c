/-
  FormatBeside: the walk.
-/
import Derived.Test.YtpfhhpmoagmhhaaGreatDoorGU
import Derived.Test.YtpfhhpmoagmhhaaGreatDoorGQ
namespace Go.Proofs.YtpfhhpmoagmhhaaGreatDoor
open Go.RowKit
set_option linter.unusedVariables false
set_option maxRecDepth 100000

/-- What Expand answers, by its two parts. -/
def txtF : Except Int (List UInt8) → List UInt8
  | .ok s => s
  | .error _ => []
def codF : Except Int (List UInt8) → Int
  | .ok _ => 0
  | .error k => k
theorem ans_two (r : Except Int (List UInt8)) : ansF r = .returned (.tuple #[.string (str (txtF r)), .int .i64 (codF r)]) := by cases r <;> rfl
theorem cod_ok {vs : Vars} {l : List UInt8} (h : codF (saysF vs l) = 0) : saysF vs l = .ok (txtF (saysF vs l)) := by
  cases hr : saysF vs l with
  | ok s => rfl
  | error k =>
    rw [hr] at h
    have := bad_say vs 16 l k (by rw [says_eq, hr])
    exact absurd h this
theorem txt_short {vs : Vars} {l : List UInt8} : (txtF (saysF vs l)).length ≤ 1024 := by
  cases hr : saysF vs l with
  | ok s =>
    show s.length ≤ 1024
    exact say_short (vs := vs) (r := 16) (l := l) ((says_eq vs l).trans (by rw [hr]))
  | error k => exact Nat.zero_le _
theorem snoc_or (l : List UInt8) : l = [] ∨ ∃ L c, l = L ++ [c] := by
  rcases List.eq_nil_or_concat l with h | ⟨L, c, h⟩
  · exact .inl h
  · exact .inr ⟨L, c, by rw [h, List.concat_eq_append]⟩
/-- How many # a text has. -/
def countF (l : List UInt8) : Nat := l.countP fun c => decide (c.toNat = 35)
theorem count_take {l : List UInt8} {i : Nat} {c : UInt8} (h : l[i]? = some c) : countF (l.take (i + 1)) = countF (l.take i) + if c.toNat = 35 then 1 else 0 := by
  unfold countF
  rw [List.take_add_one, h, Option.toList_some, List.countP_append]
  simp
theorem count_le (l : List UInt8) : countF l ≤ l.length := List.countP_le_length
theorem fine_last {p : List UInt8} {c : UInt8} (h : c.toNat ≠ 35) : Fine (p ++ [c]) := .inl (by
  rw [List.getLast?_append]
  simp only [List.getLast?_singleton, Option.some_or, ne_eq, Option.some.injEq]
  rintro rfl
  exact h rfl)
theorem fine_two {p : List UInt8} (h : countF (p ++ [35, 35]) = 2) : Fine (p ++ [35, 35]) := .inr ⟨p, rfl, fun c hc e => by
  unfold countF at h
  rw [List.countP_append] at h
  have h2 : ([35, 35] : List UInt8).countP (fun c => decide (c.toNat = 35)) = 2 := by decide
  rw [h2] at h
  have h3 : p.countP (fun c => decide (c.toNat = 35)) = 0 := by omega
  rw [List.countP_eq_zero] at h3
  exact h3 c hc (by simpa using e)⟩
set_option maxHeartbeats 2000000 in
theorem plain_any (f : List UInt8) (hf : f.length ≤ 2147483647) (w : World) : Calls Tryz.prog 10 #[.string (str f)] w fun e w' => ∃ b, e = .returned (.bool b) ∧ w = w' ∧ (b = true → Fine f) := by
  have hs : (str f).size = f.length := rfl
  have HG : Hid (∀ (i : Nat) (c : UInt8), f[i]? = some c → ∀ h : i < (str f).size, (str f)[i] = c) := fun i c hc h => str_getF f i c hc h
  obtain ⟨z, hz⟩ : ∃ z, str f = z := ⟨_, rfl⟩
  rw [hz] at hs HG ⊢
  obtain ⟨n, hn⟩ : ∃ n, f.length = n := ⟨_, rfl⟩
  have HN := hidK hn
  rw [hn] at hs hf
  clear hz hn
  go_enter Tryz.func10, Tryz.ntmps10
  go_wp2_with fail
  go_loopw [3, 4] (fun s3 s4 wx => ∃ (i q : Nat), i ≤ n ∧ q ≤ i ∧ s4 = .int .i64 (i : Int) ∧ s3 = .int .i64 (q : Int) ∧ Hid (q = countF (f.take i)) ∧ wx = w) (fun _ v _ => n - (intOf v).toNat)
  case atStart => exact ⟨0, 0, Nat.zero_le _, Nat.le_refl _, rfl, rfl, rfl, rfl⟩
  case round =>
    obtain ⟨i, q, hi, hq, rfl, rfl, HQ, rfl⟩ := hrel
    by_cases hin : i < n
    · obtain ⟨c, hc⟩ : ∃ c, f[i]? = some c := ⟨_, List.getElem?_eq_getElem (by rw [HN.out]; exact hin)⟩
      have g0 := HG.out i c hc (by omega)
      have HC := hidK (count_take hc)
      clear hc
      by_cases h35 : c.toNat = 35
      · have HQ2 := hidK (show q + 1 = countF (f.take (i + 1)) by have h := HC.out; rw [if_pos h35] at h; have h2 := HQ.out; omega)
        go_wp2_with fail
        go_roundw
        case rel => exact ⟨i + 1, q + 1, by omega, by omega, by go_num, by go_num, HQ2.out, by first | rfl | trivial⟩
        case measure => simp [intOf]; omega
      · have HQ2 := hidK (show q = countF (f.take (i + 1)) by have h := HC.out; rw [if_neg h35] at h; have h2 := HQ.out; omega)
        go_wp2_with fail
        go_roundw
        case rel => exact ⟨i + 1, q, by omega, by omega, by go_num, rfl, HQ2.out, by first | rfl | trivial⟩
        case measure => simp [intOf]; omega
    · obtain rfl : i = n := by omega
      have HQ3 : Hid (q = countF f) := by have h := HQ.out; rwa [List.take_of_length_le (by rw [HN.out]; exact Nat.le_refl _)] at h
      clear HQ
      rcases snoc_or f with rfl | ⟨L, c, rfl⟩
      · have hn0 : i = 0 := by have := HN.out; simpa using this.symm
        subst hn0
        go_wp2_with fail
        all_goals go_ret
        all_goals exact ⟨_, rfl, rfl, fun _ => .inl (by simp)⟩
      · by_cases h35 : c.toNat = 35
        · rcases snoc_or L with rfl | ⟨M, d, rfl⟩
          · have hn1 : i = 1 := by have := HN.out; simpa using this.symm
            subst hn1
            have g0 := HG.out 0 c rfl (by omega)
            go_wp2_with fail
            all_goals go_ret
            all_goals exact ⟨_, rfl, rfl, fun h => absurd h (by first | decide | simp)⟩
          · obtain ⟨m, hm⟩ : ∃ m, M.length = m := ⟨_, rfl⟩
            have hn2 : i = m + 2 := by have := HN.out; simp at this; omega
            subst hn2
            have g1 := HG.out (m + 1) c (by simp [hm]) (by omega)
            have g2 := HG.out m d (by simp [hm]) (by omega)
            by_cases hd : d.toNat = 35
            · by_cases hq2 : q = 2
              · have HFi : Hid (Fine (M ++ [d] ++ [c])) := by
                  have e1 : c = 35 := UInt8.toNat_inj.1 h35
                  have e2 : d = 35 := UInt8.toNat_inj.1 hd
                  have h := HQ3.out
                  rw [hq2, e1, e2, List.append_assoc] at h
                  rw [e1, e2, List.append_assoc]
                  exact fine_two h.symm
                subst hq2
                clear HQ3 HG HN hm
                go_wp2_with fail
                all_goals go_ret
                all_goals exact ⟨_, rfl, rfl, fun _ => HFi.out⟩
              · have hq3 : ¬ (q : Int) = 2 := by omega
                clear HQ3 HG HN hm
                go_wp2_with fail
                all_goals go_ret
                all_goals exact ⟨_, rfl, rfl, fun h => absurd h (by first | decide | (simp [hq3]; done) | (simp [hq3]; omega) | simp)⟩
            · clear HQ3 HG HN hm
              go_wp2_with fail
              all_goals go_ret
              all_goals exact ⟨_, rfl, rfl, fun h => absurd h (by first | decide | (simp; done) | (simp; omega) | simp)⟩
        · obtain ⟨m, hm⟩ : ∃ m, L.length = m := ⟨_, rfl⟩
          have hn2 : i = m + 1 := by have := HN.out; simp at this; omega
          subst hn2
          have g1 := HG.out m c (by simp [hm]) (by omega)
          have HFi := hidK (fine_last (p := L) h35)
          clear HQ3 HG HN hm
          go_wp2_with fail
          all_goals go_ret
          all_goals exact ⟨_, rfl, rfl, fun _ => HFi.out⟩
theorem bytes_cat (a b : List UInt8) : str a ++ str b = str (a ++ b) := by
  apply ByteArray.ext
  simp [str]
set_option maxHeartbeats 8000000 in
theorem formatBeside_walk (f g : List UInt8) (sv : Value) (vs : Vars) (w : World) (hE : FEnv w) (hv : VarsIn w sv vs) (hvs : ∀ p ∈ vs, p.2.length ≤ 2147483647) (hf : f.length ≤ 1048576) (hg : g.length ≤ 1048576) :
    Calls Tryz.prog 4 #[.string (str f), .string (str g), sv] w fun e w' => e = .returned (.bool true) ∧ Below w.heap.size w w' := by
  have HW : Hid (∀ W, Below w.heap.size w W → Calls Tryz.prog 7 #[] W fun e w' => e = .returned (.bool true) ∧ Below W.heap.size W w') := fun W h => works_all (hE.below h)
  have HX : Hid (∀ (l : List UInt8), l.length ≤ 2097152 → ∀ W, Below w.heap.size w W → Calls Tryz.prog 8 #[.string (str l), sv] W fun e w' => e = .returned (.tuple #[.string (str (txtF (saysF vs l))), .int .i64 (codF (saysF vs l))]) ∧ Below W.heap.size W w') := fun l hl W hb => by
    have h := expand_all (hE.below hb) (hv.below hb) hvs l (by omega)
    rw [ans_two] at h
    exact h
  have HX1 := hidK (HX.out f (by omega))
  have HX2 := hidK (HX.out g (by omega))
  have HX3 := hidK (HX.out (f ++ g) (by rw [List.length_append]; omega))
  have HP := hidK fun W => plain_any f (by omega) W
  have hs1 : (str (txtF (saysF vs f))).size ≤ 1024 := txt_short
  have hs2 : (str (txtF (saysF vs g))).size ≤ 1024 := txt_short
  have HS : Hid (codF (saysF vs f) = 0 → codF (saysF vs g) = 0 → Fine f → saysF vs (f ++ g) = if 1024 < (txtF (saysF vs f)).length + (txtF (saysF vs g)).length then .error 2 else .ok (txtF (saysF vs f) ++ txtF (saysF vs g))) := fun h1 h2 hF => by
    have h := say_beside (r := 16) hF ((says_eq vs f).trans (by rw [cod_ok h1])) ((says_eq vs g).trans (by rw [cod_ok h2]))
    rw [says_eq] at h
    split at h
    · rename_i hl
      rw [if_pos hl]
      exact Option.some.inj h
    · rename_i hl
      rw [if_neg hl]
      exact Option.some.inj h
  have hfs : (str f).size = f.length := rfl
  have hgs : (str g).size = g.length := rfl
  have hcat := bytes_cat f g
  obtain ⟨zf, hzf⟩ : ∃ z, str f = z := ⟨_, rfl⟩
  obtain ⟨zg, hzg⟩ : ∃ z, str g = z := ⟨_, rfl⟩
  obtain ⟨zh, hzh⟩ : ∃ z, str (f ++ g) = z := ⟨_, rfl⟩
  rw [hzf] at HX1 HP hfs hcat ⊢
  rw [hzg] at HX2 hgs hcat ⊢
  rw [hzh] at HX3 hcat
  have d2 : ¬ 9223372036854775807 < zf.size + zg.size := by omega
  obtain ⟨s, hs⟩ : ∃ s, txtF (saysF vs f) = s := ⟨_, rfl⟩
  obtain ⟨t, ht⟩ : ∃ t, txtF (saysF vs g) = t := ⟨_, rfl⟩
  obtain ⟨R, hR⟩ : ∃ R, saysF vs (f ++ g) = R := ⟨_, rfl⟩
  obtain ⟨a, ha⟩ : ∃ a, codF (saysF vs f) = a := ⟨_, rfl⟩
  obtain ⟨b, hb⟩ : ∃ b, codF (saysF vs g) = b := ⟨_, rfl⟩
  rw [hs, ha] at HX1
  rw [ht, hb] at HX2
  rw [hR] at HX3
  rw [ha, hb, hs, ht, hR] at HS
  rw [hs] at hs1
  rw [ht] at hs2
  have hcat2 := bytes_cat s t
  have hss : (str s).size = s.length := rfl
  have hts : (str t).size = t.length := rfl
  obtain ⟨zs, hzs⟩ : ∃ z, str s = z := ⟨_, rfl⟩
  obtain ⟨zt, hzt⟩ : ∃ z, str t = z := ⟨_, rfl⟩
  rw [hzs] at HX1 hs1 hss hcat2
  rw [hzt] at HX2 hs2 hts hcat2
  subst hcat
  clear hzf hzg hzh hzs hzt hs ht hR ha hb hE hv hvs HX
  have d3 : ¬ 9223372036854775807 < zs.size + zt.size := by omega
  have s0 : (str []).toList = [] := str_toList _
  go_enter Tryz.func4, Tryz.ntmps4
  go_wp2_with fail
  refine (HX1.out _ (Below.refl _ _)).mono ?_
  rintro e w1 ⟨rfl, hb1⟩
  have HB1 := hidK hb1
  clear hb1
  go_wp2_with fail
  refine (HX2.out _ HB1.out).mono ?_
  rintro e w2 ⟨rfl, hb2⟩
  have HB2 := hidK (HB1.out.trans (hb2.mono HB1.out.size))
  clear hb2
  go_wp2_with fail
  refine (HX3.out _ HB2.out).mono ?_
  rintro e w3 ⟨rfl, hb3⟩
  have HB3 := hidK (HB2.out.trans (hb3.mono HB2.out.size))
  clear hb3
  go_wp2_with fail
  refine (HW.out _ HB3.out).mono ?_
  rintro e w4 ⟨rfl, hb4⟩
  have HB4 := hidK (HB3.out.trans (hb4.mono HB3.out.size))
  clear hb4 HX1 HX2 HX3 HW
  by_cases ha0 : a = 0
  · by_cases hb0 : b = 0
    · subst ha0 hb0
      go_wp2_with fail
      refine (HP.out _).mono ?_
      rintro e w5 ⟨pb, rfl, rfl, hpb⟩
      cases pb with
      | false =>
        clear hpb HS HP
        go_wp2_with fail
        all_goals go_ret
        all_goals exact ⟨rfl, HB4.out⟩
      | true =>
        have hRr := HS.out (by first | rfl | trivial) (by first | rfl | trivial) (hpb (by first | rfl | trivial))
        clear hpb HS HP
        by_cases hl : 1024 < s.length + t.length
        · rw [if_pos hl] at hRr
          subst hRr
          have hl2 : (1024 : Int) < (zs.size : Int) + (zt.size : Int) := by omega
          simp only [txtF, codF]
          go_wp2_with fail
          all_goals go_ret
          all_goals exact ⟨rfl, HB4.out⟩
        · rw [if_neg hl] at hRr
          subst hRr
          have hl2 : ¬ (1024 : Int) < (zs.size : Int) + (zt.size : Int) := by omega
          simp only [txtF, codF]
          rw [← hcat2]
          go_wp2_with fail
          all_goals go_ret
          all_goals exact ⟨by simp, HB4.out⟩
    · have hb1 : ¬ (b : Int) = 0 := hb0
      subst ha0
      clear HS HP hb0
      go_wp2_with fail
      all_goals go_ret
      all_goals exact ⟨rfl, HB4.out⟩
  · clear HS HP
    go_wp2_with fail
    all_goals go_ret
    all_goals exact ⟨rfl, HB4.out⟩

end Go.Proofs.YtpfhhpmoagmhhaaGreatDoor
