/-
  Formats: the heads of truths, not, and what is left as it is.
-/
import Derived.Test.YtlfcjcaofhcfnaaGreatDoorGM
import Derived.Deep.RegionWith
namespace Go.Proofs.YtlfcjcaofhcfnaaGreatDoor
open Go.RowKit
set_option linter.unusedVariables false
set_option maxRecDepth 100000

/-- What is said of two truths. -/
def IsBOk (g : Nat) (lb : Array Value) (q : Bool → Bool → Bool) (w : World) : Prop := ∀ W, Below w.heap.size w W → ∀ a b : Bool, Calls Tryz.prog g (#[.bool a, .bool b] ++ lb) W fun e w' => e = .returned (.bool (q a b)) ∧ Below W.heap.size W w'
set_option maxHeartbeats 4000000 in
theorem truths_head {g : Nat} (hg : Enters g) {lb : Array Value} {q : Bool → Bool → Bool} {sub : List UInt8 → Res} {w : World} {xb : Nat} {d : Int} (hO : IsBOk g lb q w) (hM : MeanOk 100 sub w xb d) (hs : ∀ q s, sub q = some (.ok s) → s.length ≤ 2147483647) {xc oc : Nat} (h1 : w.cell? ⟨xc, 0, none⟩ = some (.pointer (some ⟨xb, 0, none⟩))) (h2 : w.cell? ⟨oc, 0, none⟩ = some (.func (.func g) #[] lb)) (p : List UInt8) (hp : p.length ≤ 2147483647) (res : Except Int (List UInt8)) (h : textsF (fun a b => q (truthF a) (truthF b)) (bothF sub p) = some res) :
    Calls Tryz.prog 99 #[.string (str p), .int .i64 d, .pointer (some ⟨xc, 0, none⟩), .pointer (some ⟨oc, 0, none⟩)] w fun e w' => Out res e ∧ Below w.heap.size w w' := by
  unfold Enters at hg
  have eop : Enters 100 := enters_of Tryz.func100 (by kernel_rfl) rfl
  have HOf := hidK hO
  have H2 := hidK h2
  cases hb : bothF sub p with
  | none => rw [hb] at h; cases h
  | some rb =>
    have HB := hidK (both_any eop hM p hp rb hb)
    rw [hb] at h
    have HH := hidK h
    obtain ⟨z, hz⟩ : ∃ z, str p = z := ⟨_, rfl⟩
    rw [hz] at HB ⊢
    cases rb with
    | error k =>
      have HRs : Hid (res = .error k) := (Option.some.inj HH.out).symm
      clear hz hb h hO hM hs hp eop HH HOf h2
      go_enter Tryz.func99, Tryz.ntmps99
      go_wp2_with fail
      all_goals refine HB.out.mono ?_
      all_goals rintro x w1 ⟨⟨v, rfl, hv⟩, hb1⟩
      obtain ⟨t, y, rfl⟩ := hv.iface
      have HV := hidK hv
      clear hv HB
      go_wp2_with fail
      all_goals go_ret2
      all_goals exact ⟨by rw [HRs.out]; exact ⟨_, rfl, HV.out⟩, hb1⟩
    | ok st =>
      obtain ⟨s, t⟩ := st
      obtain ⟨hsl, htl⟩ := both_short hs hb
      have HRs : Hid (res = .ok (yesF (q (truthF s) (truthF t)))) := (Option.some.inj HH.out).symm
      have HI := hidK fun W hW => HOf.out W hW (truthF s) (truthF t)
      have HTs := hidK fun W => truth_any s W
      have HTt := hidK fun W => truth_any t W
      obtain ⟨S, hS⟩ : ∃ S, truthF s = S := ⟨_, rfl⟩
      obtain ⟨T, hT⟩ : ∃ T, truthF t = T := ⟨_, rfl⟩
      rw [hS] at HTs
      rw [hT] at HTt
      rw [hS, hT] at HI HRs
      obtain ⟨Q, hQ⟩ : ∃ Q, q S T = Q := ⟨_, rfl⟩
      rw [hQ] at HRs HI
      have HY := hidK fun W => yes_any Q W
      obtain ⟨zs, hzs⟩ : ∃ zs, str s = zs := ⟨_, rfl⟩
      obtain ⟨zt, hzt⟩ : ∃ zt, str t = zt := ⟨_, rfl⟩
      obtain ⟨zy, hzy⟩ : ∃ zy, str (yesF Q) = zy := ⟨_, rfl⟩
      have HZy := hidK hzy
      have HB' : Hid (Calls Tryz.prog 97 #[.pointer (some ⟨xb, 0, none⟩), .string z, .int .i64 d, .func (.func 100) #[.pointer (some ⟨xb, 0, none⟩)] #[]] w fun e w' => e = .returned (.tuple #[.string zs, .string zt, .nilIface]) ∧ Below w.heap.size w w') := HB.out.mono fun e w' k => ⟨by have k1 : e = .returned (.tuple #[.string (str s), .string (str t), .nilIface]) := k.1; rw [k1, hzs, hzt], k.2⟩
      rw [hzs] at HTs
      rw [hzt] at HTt
      rw [hzy] at HY
      clear hz hb h hO hM hs hp eop HH h2 HB hzs hzt hzy hsl htl HOf hQ hS hT
      go_enter Tryz.func99, Tryz.ntmps99
      go_wp2_with fail
      all_goals refine HB'.out.mono ?_
      all_goals rintro x w1 ⟨rfl, hb1⟩
      have HB1 := hidK hb1
      have hq := cell_later hb1 H2.out
      have HI1 : Hid (∀ W, Below w.heap.size w W → Calls Tryz.prog g (#[.bool S, .bool T] ++ lb) W fun e w' => e = .returned (.bool Q) ∧ Below w.heap.size w w') := fun W hW => (HI.out W hW).mono fun e w' k => ⟨k.1, hW.trans (k.2.mono hW.size)⟩
      clear hb1 HI HB'
      go_wp2_with fail
      go_region_with (first | (go_at_call 101; first | (refine (HTs.out _).mono ?_; rintro x w2 ⟨rfl, rfl⟩) | (refine (HTt.out _).mono ?_; rintro x w2 ⟨rfl, rfl⟩)) | (go_at_fn g; refine (HI1.out _ (by first | exact HB1.out | exact HB1.out.drew | exact HB1.out.drew.drew | exact HB1.out.drew.drew.drew)).mono ?_; rintro x w2 ⟨rfl, hb2⟩) | (go_at_call 98; refine (HY.out _).mono ?_; rintro x w3 ⟨rfl, rfl⟩))
      all_goals go_wp2_with fail
      all_goals go_ret2
      all_goals exact ⟨by rw [HRs.out]; show Ending.returned _ = Ending.returned (.tuple #[.string (str (yesF Q)), .nilIface]); rw [HZy.out]; rfl, by first | assumption | exact hb2.drew⟩
set_option maxHeartbeats 4000000 in
theorem not_head {sub : List UInt8 → Res} {w : World} {xb : Nat} {d : Int} (hM : MeanOk 100 sub w xb d) (p : List UInt8) (hp : p.length ≤ 2147483647) (res : Except Int (List UInt8)) (h : notF (sub p) = some res) :
    Calls Tryz.prog 64 #[.pointer (some ⟨xb, 0, none⟩), .string (str p), .int .i64 d] w fun e w' => Out res e ∧ Below w.heap.size w w' := by
  cases hb : sub p with
  | none => rw [hb] at h; cases h
  | some rb =>
    have HB := hidK (hM w (Below.refl _ _) p hp rb hb)
    rw [hb] at h
    have HH := hidK h
    obtain ⟨z, hz⟩ : ∃ z, str p = z := ⟨_, rfl⟩
    rw [hz] at HB ⊢
    cases rb with
    | error k =>
      have HRs : Hid (res = .error k) := (Option.some.inj HH.out).symm
      clear hz hb h hM hp HH
      go_enter Tryz.func64, Tryz.ntmps64
      go_wp2_with fail
      all_goals refine HB.out.mono ?_
      all_goals rintro x w1 ⟨⟨v, rfl, hv⟩, hb1⟩
      obtain ⟨t, y, rfl⟩ := hv.iface
      have HV := hidK hv
      clear hv HB
      go_wp2_with fail
      all_goals go_ret2
      all_goals exact ⟨by rw [HRs.out]; exact ⟨_, rfl, HV.out⟩, hb1⟩
    | ok s =>
      have HRs : Hid (res = .ok (yesF (!truthF s))) := (Option.some.inj HH.out).symm
      have HT := hidK fun W => truth_any s W
      obtain ⟨S, hS⟩ : ∃ S, truthF s = S := ⟨_, rfl⟩
      rw [hS] at HT HRs
      have HY := hidK fun W => yes_any (!S) W
      obtain ⟨zs, hzs⟩ : ∃ zs, str s = zs := ⟨_, rfl⟩
      obtain ⟨zy, hzy⟩ : ∃ zy, str (yesF (!S)) = zy := ⟨_, rfl⟩
      have HZy := hidK hzy
      have HB' : Hid (Calls Tryz.prog 100 #[.pointer (some ⟨xb, 0, none⟩), .string z, .int .i64 d] w fun e w' => e = .returned (.tuple #[.string zs, .nilIface]) ∧ Below w.heap.size w w') := HB.out.mono fun e w' k => ⟨by have k1 : e = .returned (.tuple #[.string (str s), .nilIface]) := k.1; rw [k1, hzs], k.2⟩
      rw [hzs] at HT
      rw [hzy] at HY
      clear hz hb h hM hp HH HB hzs hzy hS
      go_enter Tryz.func64, Tryz.ntmps64
      go_wp2_with fail
      all_goals refine HB'.out.mono ?_
      all_goals rintro x w1 ⟨rfl, hb1⟩
      have HB1 := hidK hb1
      clear hb1 HB'
      go_wp2_with fail
      all_goals refine (HT.out _).mono ?_
      all_goals rintro x w2 ⟨rfl, rfl⟩
      go_wp2_with (go_at_call 98; refine (HY.out _).mono ?_; rintro x w3 ⟨rfl, rfl⟩)
      all_goals go_ret2
      all_goals exact ⟨by rw [HRs.out]; show Ending.returned _ = Ending.returned (.tuple #[.string (str (yesF (!S))), .nilIface]); rw [HZy.out]; rfl, HB1.out⟩
theorem left_head (p : List UInt8) (d : Int) (w : World) : Calls Tryz.prog 65 #[.string (str p), .int .i64 d] w fun e w' => Out (.ok p) e ∧ Below w.heap.size w w' := by
  obtain ⟨z, hz⟩ : ∃ z, str p = z := ⟨_, rfl⟩
  have HZ := hidK hz
  rw [hz]
  clear hz
  go_enter Tryz.func65, Tryz.ntmps65
  go_wp2_with fail
  all_goals go_ret2
  all_goals exact ⟨by show Ending.returned _ = Ending.returned (.tuple #[.string (str p), .nilIface]); rw [HZ.out]; rfl, Below.refl _ _⟩
end Go.Proofs.YtlfcjcaofhcfnaaGreatDoor
