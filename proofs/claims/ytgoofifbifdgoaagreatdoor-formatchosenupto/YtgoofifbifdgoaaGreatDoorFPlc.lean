/-
  Formats: a place; the beginning of a text.
-/
import Derived.Test.YtgoofifbifdgoaaGreatDoorFIns
namespace Go.Proofs.YtgoofifbifdgoaaGreatDoor
open Go.RowKit
set_option linter.unusedVariables false
set_option maxRecDepth 100000

/-- What is told of the beginning of a text. -/
def OutN (r : Except Int (List UInt8 × Nat)) (e : Ending) : Prop := match r with
  | .ok (s, n) => e = .returned (.tuple #[.string (str s), .int .i64 (n : Int), .nilIface])
  | .error k => ∃ v, e = .returned (.tuple #[.string (str []), .int .i64 0, v]) ∧ ErrV v k
/-- What a place's inside says, so many places being allowed. -/
def plF (vs : Vars) : Nat → List UInt8 → Res
  | 0, _ => some (.error 101)
  | r + 1, l => placeF (sayF vs r) vs l
theorem say_eq (vs : Vars) (r : Nat) (l : List UInt8) : sayF vs r l = loopF (plF vs r) vs l.length l [] := by
  cases r <;> rfl
theorem insG_le : ∀ (f : Nat) (l : List UInt8) (o : Int) (k i : Nat), insG f l o k = some i → k ≤ i ∧ i < k + l.length
  | 0, l, o, k, i, h => by cases h
  | f + 1, l, o, k, i, h => by
    unfold insG at h
    split at h
    · cases h
    · rename_i hne
      have hp := pass_le hne
      have hp1 := pass_pos l
      split at h
      · cases h
        have : 0 < l.length := List.length_pos_iff.2 hne
        omega
      · have := insG_le f _ _ _ i h
        rw [List.length_drop] at this
        omega
theorem inside_le {l : List UInt8} {i : Nat} (h : insideF l = some i) : i < l.length := by
  have := insG_le _ _ _ _ _ h
  omega
def placeN (vs : Vars) (r : Nat) (t : List UInt8) : Option (Except Int (List UInt8 × Nat)) := match insideF t with
  | none => some (.error 100)
  | some k => match plF vs r (t.take k) with
    | none => none
    | some (.error e) => some (.error e)
    | some (.ok s) => some (.ok (s, k + 3))

set_option maxHeartbeats 4000000 in
theorem place_any {r : Nat} (hS : ∀ r', r = r' + 1 → SayOk r') (hr : r ≤ 16) {w : World} {xb : Nat} {vs : Vars} (hX : XE w xb vs) (t : List UInt8) (hp : t.length + 2 ≤ 2147483647) (res : Except Int (List UInt8 × Nat)) (h : placeN vs r t = some res) :
    Calls Tryz.prog 76 #[.pointer (some ⟨xb, 0, none⟩), .string (str (35 :: 123 :: t)), .int .i64 ((16 : Int) - (r : Int))] w fun e w' => OutN res e ∧ Below w.heap.size w w' := by
  have HIn := hidK (ins_any t (by omega) w)
  have hD : (str (35 :: 123 :: t)).extract 2 (str (35 :: 123 :: t)).size = str t := str_dropF (35 :: 123 :: t) 2
  have hM : ∀ j, (str (35 :: 123 :: t)).extract 2 (2 + j) = str (t.take j) := fun j => by
    rw [str_midF]
    simp
  have hs : (str (35 :: 123 :: t)).size = t.length + 2 := rfl
  obtain ⟨z, hz⟩ : ∃ z, str (35 :: 123 :: t) = z := ⟨_, rfl⟩
  obtain ⟨zt, hzt⟩ : ∃ zt, str t = zt := ⟨_, rfl⟩
  rw [hz] at hD hM hs ⊢
  rw [hzt] at hD HIn
  rw [hs] at hD
  unfold placeN at h
  obtain ⟨d, hd⟩ : ∃ d : Int, (16 : Int) - (r : Int) = d := ⟨_, rfl⟩
  have hd1 : 0 ≤ d ∧ d ≤ 16 := by omega
  obtain ⟨hd1, hd2⟩ := hd1
  obtain ⟨n, hn⟩ : ∃ n, t.length = n := ⟨_, rfl⟩
  rw [hn] at hD hs hp
  cases hi : insideF t with
  | none =>
    rw [hi] at HIn h
    have HRs : Hid (res = .error 100) := (Option.some.inj h).symm
    rw [hd]
    clear h hi hM hz hzt hd hn hS hX
    go_enter Tryz.func76, Tryz.ntmps76
    go_wp2_with (go_at_call 113; refine HIn.out.mono ?_; rintro x w1 ⟨rfl, rfl⟩)
    all_goals exact bodyPost_ret (results_tmp3 (by rfl) _ _ _) rfl ⟨by rw [HRs.out]; exact ⟨_, rfl, .fault 100⟩, Below.refl _ _⟩
  | some k =>
    rw [hi] at HIn h
    simp only at h
    have hk := inside_le hi
    rw [hn] at hk
    have hMk := hM k
    obtain ⟨zi, hzi⟩ : ∃ zi, str (t.take k) = zi := ⟨_, rfl⟩
    simp only [Option.getD_some, Option.isSome_some] at HIn
    obtain ⟨K, hK⟩ : ∃ K, 2 + k = K := ⟨_, rfl⟩
    rw [hK] at hMk
    have HK := hidK hK
    have hK1 : (2 : Int) + (k : Int) = (K : Int) := by omega
    have hK2 : 2 ≤ K := by omega
    have hK3 : K ≤ n + 2 := by omega
    have hK4 : (K : Int) ≤ (n : Int) + 2 := by omega
    have hK5 : (2 : Int) ≤ (K : Int) := by omega
    clear hK
    cases r with
    | zero =>
      have HRs : Hid (res = .error 101) := (Option.some.inj h).symm
      have hd16 : d = 16 := by omega
      subst hd16
      rw [hd]
      rw [hzi] at hMk
      clear h hi hM hz hzt hd hn hS hX hzi
      go_enter Tryz.func76, Tryz.ntmps76
      go_wp2_with (go_at_call 113; refine HIn.out.mono ?_; rintro x w1 ⟨rfl, rfl⟩)
      all_goals exact bodyPost_ret (results_tmp3 (by rfl) _ _ _) rfl ⟨by rw [HRs.out]; exact ⟨_, rfl, .within _ _ _ (.fault 101)⟩, Below.refl _ _⟩
    | succ r =>
      have hd16 : ¬ d = 16 := by omega
      have hdd : d + 1 = (16 : Int) - (r : Int) := by omega
      cases hpl : placeF (sayF vs r) vs (t.take k) with
      | none =>
        have h2 : plF vs (r + 1) (t.take k) = none := hpl
        rw [h2] at h
        cases h
      | some rp =>
        have h2 : plF vs (r + 1) (t.take k) = some rp := hpl
        rw [h2] at h
        have HIs := hidK (inside_any (hS r rfl) (by omega) hX (t.take k) (by rw [List.length_take]; omega) rp hpl)
        rw [← hdd, hzi] at HIs
        rw [hzi] at hMk
        rw [hd]
        have HH := hidK h
        clear h hi hM hz hzt hd hn hS hX hzi hpl h2 hdd
        go_enter Tryz.func76, Tryz.ntmps76
        go_wp2_with (go_at_call 113; refine HIn.out.mono ?_; rintro x w1 ⟨rfl, rfl⟩)
        refine HIs.out.mono ?_
        rintro x w3 ⟨ho3, hb3⟩
        cases rp with
        | ok s3 =>
          have ho' : x = .returned (.tuple #[.string (str s3), .nilIface]) := ho3
          subst ho'
          have HRs : Hid (res = .ok (s3, k + 3)) := (Option.some.inj HH.out).symm
          have E3 : Hid (((k + 3 : Nat) : Int) = (K : Int) + 1) := by show _ = _; have := HK.out; omega
          clear ho3 HH
          go_wp2_with fail
          all_goals exact bodyPost_ret (results_tmp3 (by rfl) _ _ _) rfl ⟨by rw [HRs.out]; show Ending.returned _ = Ending.returned (.tuple #[.string (str s3), .int .i64 ((k + 3 : Nat) : Int), .nilIface]); rw [E3.out]; rfl, hb3⟩
        | error k3 =>
          obtain ⟨v3, rfl, hv3⟩ := ho3
          obtain ⟨tt, y, rfl⟩ := hv3.iface
          have HRs : Hid (res = .error k3) := (Option.some.inj HH.out).symm
          have HV := hidK hv3
          clear HH hv3
          go_wp2_with fail
          all_goals exact bodyPost_ret (results_tmp3 (by rfl) _ _ _) rfl ⟨by rw [HRs.out]; exact ⟨_, rfl, .within _ _ _ HV.out⟩, hb3⟩

end Go.Proofs.YtgoofifbifdgoaaGreatDoor
