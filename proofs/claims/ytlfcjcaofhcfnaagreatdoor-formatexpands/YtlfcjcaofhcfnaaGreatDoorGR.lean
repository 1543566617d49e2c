/-
  Formats: what a text says, at every depth.
-/
import Derived.Test.YtlfcjcaofhcfnaaGreatDoorGC
import Derived.Test.YtlfcjcaofhcfnaaGreatDoorGP
import Derived.Test.YtlfcjcaofhcfnaaGreatDoorGQ
namespace Go.Proofs.YtlfcjcaofhcfnaaGreatDoor
open Go.RowKit
set_option linter.unusedVariables false
set_option maxRecDepth 100000

theorem said_pos {pl : List UInt8 → Res} {vs : Vars} {l s : List UInt8} {n : Nat} (hne : l ≠ []) (h : saidF pl vs l = some (.ok (s, n))) : 1 ≤ n ∧ n ≤ l.length := by
  unfold saidF at h
  have hpl := plain_le l
  have hll : 0 < l.length := List.length_pos_iff.2 hne
  unfold nextF at h
  by_cases h0 : 0 < plainF l
  · rw [if_pos h0] at h
    simp only [Option.some.injEq, Except.ok.injEq, Prod.mk.injEq] at h
    omega
  · rw [if_neg h0] at h
    cases l with
    | nil => exact absurd rfl hne
    | cons c l2 =>
      cases l2 with
      | nil =>
        simp only [Option.some.injEq, Except.ok.injEq, Prod.mk.injEq] at h
        simp only [List.length_cons]
        omega
      | cons d t =>
        simp only [] at h
        have e : (c :: d :: t).length = t.length + 2 := rfl
        rw [e]
        split at h
        · rename_i e1
          split at e1
          · cases e1
          split at e1
          · cases e1
          split at e1
          · cases e1
          · cases e1
        · rename_i s1 n1 e1
          simp only [Option.some.injEq, Except.ok.injEq, Prod.mk.injEq] at h
          split at e1
          · cases e1
            omega
          split at e1
          · cases e1
          split at e1
          · cases e1
          · cases e1
            omega
        · simp only [Option.some.injEq, Except.ok.injEq, Prod.mk.injEq] at h
          omega
        · have hr : restF (c :: d :: t) = t := rfl
          rw [hr] at h
          split at h
          · cases h
          · rename_i k hk
            have := inside_le hk
            split at h
            · cases h
            · cases h
            · simp only [Option.some.injEq, Except.ok.injEq, Prod.mk.injEq] at h
              omega

theorem turned_short : ∀ (ts : List Turn) (l s : List UInt8), turnedF ts l = some (.ok s) → l.length ≤ 2147483647 → s.length ≤ 2147483647
  | [], l, s, h, hl => by
    simp only [turnedF, Option.some.injEq, Except.ok.injEq] at h
    subst h
    exact hl
  | t :: ts, l, s, h, hl => by
    rw [turned_cons] at h
    split at h
    · cases h
    · exact turned_short ts _ s h (by omega)
theorem then_ok {r : Res} {k : List UInt8 → Res} {s : List UInt8} (h : r.then k = some (.ok s)) : ∃ a, r = some (.ok a) ∧ k a = some (.ok s) := by
  cases r with
  | none => cases h
  | some x => cases x with
    | error e => cases h
    | ok a => exact ⟨a, rfl, h⟩
theorem place_short {vs : Vars} {r : Nat} (hv : ∀ p ∈ vs, p.2.length ≤ 2147483647) {l s : List UInt8} (hl : l.length ≤ 2147483647) (h : placeF (sayF vs r) vs l = some (.ok s)) : s.length ≤ 2147483647 := by
  have hsay : ∀ {q : List UInt8}, sayF vs r q = some (.ok s) → s.length ≤ 2147483647 := fun hq => by have := say_short hq; omega
  unfold placeF at h
  split at h
  · unfold choiceF at h
    split at h
    · obtain ⟨a, _, h2⟩ := then_ok h
      split at h2
      · exact hsay h2
      · simp only [Option.some.injEq, Except.ok.injEq] at h2
        subst h2
        simp
    · obtain ⟨a, _, h2⟩ := then_ok h
      split at h2
      · exact hsay h2
      · exact hsay h2
    · cases h
  · split at h
    · unfold headedF at h
      split at h
      · rcases run_short _ h with h1 | h1
        · omega
        · rw [h1, List.length_drop]
          omega
      · split at h
        · cases h
        · cases h
        · obtain ⟨a, h1, h2⟩ := then_ok h
          exact turned_short _ _ _ h2 (operand_short hv h1)
    · split at h
      · simp only [Option.some.injEq, Except.ok.injEq] at h
        subst h
        exact val_short hv _
      · cases h
theorem said_short {vs : Vars} {r : Nat} (hv : ∀ p ∈ vs, p.2.length ≤ 2147483647) {l s : List UInt8} {n : Nat} (hl : l.length ≤ 2147483647) (h : saidF (plF vs r) vs l = some (.ok (s, n))) : s.length ≤ 2147483647 := by
  unfold saidF at h
  split at h
  · simp only [Option.some.injEq, Except.ok.injEq, Prod.mk.injEq] at h
    rw [← h.1, List.length_take]
    omega
  · rename_i s1 n1 e1
    simp only [Option.some.injEq, Except.ok.injEq, Prod.mk.injEq] at h
    rw [← h.1]
    unfold nextF at e1
    split at e1
    · cases e1
    · split at e1
      · cases e1
      · cases e1
        simp
      · split at e1
        · cases e1
          simp
        · split at e1
          · cases e1
          · split at e1
            · cases e1
            · cases e1
              simp
  · simp only [Option.some.injEq, Except.ok.injEq, Prod.mk.injEq] at h
    rw [← h.1]
    exact val_short hv _
  · split at h
    · cases h
    · split at h
      · cases h
      · cases h
      · rename_i s1 h1
        simp only [Option.some.injEq, Except.ok.injEq, Prod.mk.injEq] at h
        rw [← h.1]
        cases r with
        | zero => cases h1
        | succ r => exact place_short hv (by simp [restF]; omega) h1

set_option maxHeartbeats 4000000 in
theorem expand_any {r : Nat} (hS : ∀ r', r = r' + 1 → SayOk r') (hr : r ≤ 16) : SayOk r := by
  intro w xb vs hX l hl res hres
  have HNx := hidK (fun W (hW : Below w.heap.size w W) (x : List UInt8) (hx : x ≠ []) (hxl : x.length ≤ 2147483647) res' h' => next_any hS hr (hX.below hW) x hx hxl res' h')
  obtain ⟨d, hd⟩ : ∃ d : Int, (16 : Int) - (r : Int) = d := ⟨_, rfl⟩
  rw [hd] at HNx ⊢
  rw [say_eq] at hres
  have HR := hidK hres
  have HE := hidK (EI.start w)
  obtain ⟨b, hb⟩ : ∃ b, w.heap.size = b := ⟨_, rfl⟩
  have HBe : Hid (w.heap.size = b) := hb
  have HE0 : Hid (EI w (w.alloc (.cells #[.pointer none, .slice none 0 0] 57)) b []) := by
    have h := HE.out
    rw [← hb]
    exact h
  have HVs := hidK hX.short
  clear hd hres hS hX hb HE
  go_enter Tryz.func10, Tryz.ntmps10
  go_wp2_with fail
  rw [HBe.out]
  go_loopw [1] (fun s1 wx => ∃ (x said : List UInt8) (f : Nat), x.length ≤ 2147483647 ∧ x.length ≤ l.length ∧ said.length ≤ 1024 ∧ s1 = .string (str x) ∧ Hid (x.length ≤ f ∧ loopF (plF vs r) vs f x said = some res) ∧ Hid (EI w wx b said)) (fun v _ => match v with | .string s => s.size | _ => 0)
  case atStart => exact ⟨l, [], l.length, hl, Nat.le_refl _, by simp, rfl, ⟨Nat.le_refl _, HR.out⟩, HE0.out⟩
  case round =>
    obtain ⟨x, said, f, hxl, hxx, hsl, rfl, HF, HI⟩ := hrel
    by_cases hx : x = []
    · have HRs : Hid (res = .ok said) := by
        have h := HF.out.2
        rw [hx] at h
        cases f with
        | zero => exact (Option.some.inj h).symm
        | succ f =>
          unfold loopF at h
          rw [if_pos rfl] at h
          exact (Option.some.inj h).symm
      have HSt := hidK HI.out.string
      have h0 : (str x).toList = [] := by rw [str_toList]; exact hx
      have h1 : (str x).toList.isEmpty = true := by rw [h0]; rfl
      obtain ⟨z, hz⟩ : ∃ z, str x = z := ⟨_, rfl⟩
      rw [hz] at h0 h1 ⊢
      clear HF HI HNx hz hx hxl hxx
      go_wp2_with fail
      refine HSt.out.mono ?_
      rintro e w2 ⟨rfl, hb2⟩
      go_wp2_with fail
      all_goals go_ret2
      all_goals exact ⟨by rw [HRs.out]; rfl, hb2⟩
    · have h0 : ¬ (str x).toList = [] := by rw [str_toList]; exact hx
      have h1 : (str x).toList.isEmpty = false := by rw [str_toList]; cases x with | nil => exact absurd rfl hx | cons _ _ => rfl
      have hxp : 0 < x.length := List.length_pos_iff.2 hx
      obtain ⟨hf1, hf2⟩ := HF.out
      obtain ⟨f', rfl⟩ : ∃ f', f = f' + 1 := ⟨f - 1, by omega⟩
      unfold loopF at hf2
      rw [if_neg hx] at hf2
      have hDr := fun n => str_dropF x n
      have HDr := hidK hDr
      have hzs : (str x).size = x.length := rfl
      cases hsd : saidF (plF vs r) vs x with
      | none =>
        rw [hsd] at hf2
        cases hf2
      | some rr =>
        rw [hsd] at hf2
        have HN := hidK (HNx.out wr HI.out.below x hx hxl rr hsd)
        cases rr with
        | error k =>
          have HRs : Hid (res = .error k) := (Option.some.inj hf2).symm
          obtain ⟨z, hz⟩ : ∃ z, str x = z := ⟨_, rfl⟩
          rw [hz] at h0 h1 HN ⊢
          clear HF hf2 hf1 HNx hz hx hxl hxx hsd HDr hDr hzs hxp
          go_wp2_with fail
          refine HN.out.mono ?_
          rintro e w2 ⟨⟨v, rfl, hv⟩, hb2⟩
          obtain ⟨tt, y, rfl⟩ := hv.iface
          have HV := hidK hv
          have HB2 := hidK (HI.out.below.trans (hb2.mono HI.out.below.size))
          clear hv hb2
          go_wp2_with fail
          all_goals go_ret2
          all_goals exact ⟨by rw [HRs.out]; exact ⟨_, rfl, HV.out⟩, HB2.out⟩
        | ok sn =>
          obtain ⟨sp, n⟩ := sn
          simp only [] at hf2
          obtain ⟨hn1, hn2⟩ := said_pos hx hsd
          have hss : (str sp).size = sp.length := rfl
          have hspl := said_short HVs.out hxl hsd
          obtain ⟨z, hz⟩ : ∃ z, str x = z := ⟨_, rfl⟩
          rw [hz] at h0 h1 HN hzs HDr ⊢
          by_cases h1024 : 1024 < said.length + sp.length
          · rw [if_pos h1024] at hf2
            have HRs : Hid (res = .error 2) := (Option.some.inj hf2).symm
            clear HF hf2 hf1 HNx hz hx hxx hsd HDr hDr hxp
            go_wp2_with fail
            refine HN.out.mono ?_
            rintro e w2 ⟨ho, hb2⟩
            have ho' : e = .returned (.tuple #[.string (str sp), .int .i64 (n : Int), .nilIface]) := ho
            subst ho'
            have HI2 := hidK (HI.out.more hb2)
            have HLe := hidK (HI2.out.len hsl)
            obtain ⟨zs, hzs2⟩ : ∃ zs, str sp = zs := ⟨_, rfl⟩
            rw [hzs2] at hss ⊢
            obtain ⟨q, hq⟩ : ∃ q, said.length = q := ⟨_, rfl⟩
            rw [hq] at HLe hsl h1024
            have hbig : (1024 : Int) < (q : Int) + (zs.size : Int) := by omega
            have hzl : zs.size ≤ 2147483647 := by rw [hss]; exact hspl
            clear ho hb2 hzs2 hq h1024 hss hspl
            have HB2 := hidK HI2.out.below
            go_wp2_with fail
            refine HLe.out.mono ?_
            rintro e w3 ⟨rfl, rfl⟩
            go_wp2_with fail
            all_goals go_ret2
            all_goals exact ⟨by rw [HRs.out]; exact ⟨_, rfl, .fault 2⟩, HB2.out⟩
          · rw [if_neg h1024] at hf2
            have HF2 : Hid ((x.drop n).length ≤ f' ∧ loopF (plF vs r) vs f' (x.drop n) (said ++ sp) = some res) := ⟨by rw [List.length_drop]; omega, hf2⟩
            have HXd : Hid ((x.drop n).length + n = x.length) := by show _ = _; rw [List.length_drop]; omega
            have hdn := HDr.out n
            rw [hzs] at hdn
            obtain ⟨y, hy⟩ : ∃ y, str (x.drop n) = y := ⟨_, rfl⟩
            rw [hy] at hdn
            have HY := hidK hy
            obtain ⟨m, hm⟩ : ∃ m, x.length = m := ⟨_, rfl⟩
            rw [hm] at hzs hdn hn2 hxl HXd
            have hnz : (n : Int) ≤ (m : Int) := by omega
            clear HF hf2 hf1 HNx hz hx hsd HDr hDr hxp hy
            go_wp2_with fail
            refine HN.out.mono ?_
            rintro e w2 ⟨ho, hb2⟩
            have ho' : e = .returned (.tuple #[.string (str sp), .int .i64 (n : Int), .nilIface]) := ho
            subst ho'
            have HI2 := hidK (HI.out.more hb2)
            have HLe := hidK (HI2.out.len hsl)
            have HWr := hidK (HI2.out.write sp (by omega))
            obtain ⟨zs, hzs2⟩ : ∃ zs, str sp = zs := ⟨_, rfl⟩
            rw [hzs2] at hss HWr ⊢
            have HSl : Hid ((said ++ sp).length ≤ 1024) := by show _ ≤ _; rw [List.length_append]; omega
            obtain ⟨q, hq⟩ : ∃ q, said.length = q := ⟨_, rfl⟩
            rw [hq] at HLe hsl h1024
            have hbig : ¬ (1024 : Int) < (q : Int) + (zs.size : Int) := by omega
            have hzl : zs.size ≤ 2147483647 := by rw [hss]; exact hspl
            clear ho hb2 hzs2 hq h1024 hss hspl
            go_wp2_with fail
            refine HLe.out.mono ?_
            rintro e w3 ⟨rfl, rfl⟩
            go_wp2_with fail
            refine HWr.out.mono ?_
            rintro e w4 ⟨⟨rv, rfl⟩, he4⟩
            have HE4 := hidK he4
            clear he4
            go_wp2_with fail
            go_roundw
            case rel => exact ⟨x.drop n, said ++ sp, f', by have := HXd.out; omega, by have := HXd.out; omega, HSl.out, by rw [HY.out], HF2.out, HE4.out⟩
            case measure =>
              have h8 := HXd.out
              rw [← HY.out]
              show (str (List.drop n x)).size < z.size
              rw [str_size]
              omega

theorem say_any : ∀ r : Nat, r ≤ 16 → SayOk r
  | 0, hr => expand_any (fun r' h => by cases h) hr
  | r + 1, hr => expand_any (fun r' h => by cases h; exact say_any r (by omega)) hr

end Go.Proofs.YtlfcjcaofhcfnaaGreatDoor
