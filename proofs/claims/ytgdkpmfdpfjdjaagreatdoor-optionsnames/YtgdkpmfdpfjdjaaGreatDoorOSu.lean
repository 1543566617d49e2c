/-
  Options: sure.
-/
import Derived.Test.YtgdkpmfdpfjdjaaGreatDoorONs
import Derived.Test.YtgdkpmfdpfjdjaaGreatDoorOSet
import Derived.Test.YtgdkpmfdpfjdjaaGreatDoorOGet
namespace Go.Proofs.YtgdkpmfdpfjdjaaGreatDoor
open Go.RowKit Go.Maps
set_option linter.unusedVariables false
set_option maxRecDepth 100000

def pfx : ByteArray := ⟨#[112, 114, 101, 102, 105, 120]⟩
def cb : ByteArray := ⟨#[67, 45, 98]⟩
def mx : ByteArray := ⟨#[77, 45, 120]⟩
theorem pfx_row : rowO pfx = some ⟨pfx, 2, .key, cb⟩ := by kernel_rfl
theorem sure_get : getF [] pfx 1 1 1 = (cb, 0) := by kernel_rfl
theorem sure_read : (readF [77, 45, 120]).isSome = true := by kernel_rfl
theorem sure_set : setF [] 2 1 pfx mx = ([⟨2, 1, pfx, mx⟩], 0) := by
  rw [setF_ok pfx_row (by kernel_rfl)]
  unfold putF
  have hc : checkF .key mx = 0 := by rw [checkF_val rfl]; unfold valB; rw [show mx.data.toList = [77, 45, 120] from rfl, sure_read]; rfl
  rw [hc, if_neg (by simp), if_neg (by simp)]
  rfl
theorem sure_get2 : getF [⟨2, 1, pfx, mx⟩] pfx 1 0 0 = (mx, 0) := by kernel_rfl
theorem sure_get3 : getF [⟨2, 1, pfx, mx⟩] pfx 2 0 0 = (cb, 0) := by kernel_rfl
theorem pfx_wf : keyWf 2 1 pfx := ⟨by decide, by decide, by decide⟩
theorem sure_scope {w : World} : Calls Tryz.prog 14 #[.string ⟨#[115, 116, 97, 116, 117, 115]⟩] w fun r w' => r = .returned (.int .i64 2) ∧ Below w.heap.size w w' := by
  refine (scope_any ⟨#[115, 116, 97, 116, 117, 115]⟩ (by decide)).mono ?_
  rintro e w' ⟨⟨sc, rfl, (⟨r, hr, hn, rfl⟩ | ⟨hno, rfl⟩)⟩, hb⟩
  · have h : ∀ r ∈ rowsO, r.name = ⟨#[115, 116, 97, 116, 117, 115]⟩ → r.scope = 2 := by decide
    exact ⟨by rw [h r hr hn], hb⟩
  · exact absurd rfl (hno ⟨⟨#[115, 116, 97, 116, 117, 115]⟩, 2, .flag, ⟨#[111, 110]⟩⟩ (by unfold rowsO; simp))
set_option maxHeartbeats 16000000 in
theorem sure_any {w : World} (hE : Env w) : Calls Tryz.prog 16 #[] w fun e w' => e = .returned (.bool true) ∧ Below w.heap.size w w' := by
  have HNw := hidK (new_any w)
  obtain ⟨d, hd⟩ : ∃ d, w.heap.size + 1 = d := ⟨_, rfl⟩
  obtain ⟨b, hb⟩ : ∃ b, w.heap.size = b := ⟨_, rfl⟩
  have Hb := hidK hb
  rw [hd, hb] at HNw
  have HG1 : Hid (∀ W, Tb W d b 0 [] → Calls Tryz.prog 11 #[.pointer (some ⟨d, 0, none⟩), .string ⟨#[112, 114, 101, 102, 105, 120]⟩, .int .i64 1, .int .i64 1, .int .i64 1] W fun e w' => e = .returned (.tuple #[.string ⟨#[67, 45, 98]⟩, .int .i64 0]) ∧ Below W.heap.size W w') := fun W h => by
    refine (get_any h good_nil (nm := pfx) (by decide) (s := 1) (v := 1) (p := 1) (by decide) (by decide) (by decide)).mono ?_
    rintro e w' ⟨h1, h2⟩
    unfold getOut at h1
    rw [sure_get] at h1
    exact ⟨h1, h2⟩
  have HSt : Hid (∀ W, Env W → Tb W d b 0 [] → Calls Tryz.prog 26 #[.pointer (some ⟨d, 0, none⟩), .int .i64 2, .int .i64 1, .string ⟨#[112, 114, 101, 102, 105, 120]⟩, .string ⟨#[77, 45, 120]⟩] W fun e w' => e = .returned (.int .i64 0) ∧ ∃ n', Tn W w' d b n' [⟨2, 1, pfx, mx⟩]) := fun W hW h => by
    refine (set_any h hW good_nil (by decide) pfx_wf mx (by decide)).mono ?_
    rintro e w' hp
    rw [sure_set] at hp
    obtain ⟨n', _, ht⟩ := hp.tn
    exact ⟨hp.told, n', ht⟩
  have hg : Good [⟨2, 1, pfx, mx⟩] := by
    have := good_nil.put (sc := 2) (id := 1) (vl := mx) pfx_row (by decide)
    have e := sure_set
    rw [setF_ok pfx_row (by kernel_rfl)] at e
    rw [e] at this
    exact this
  have HG2 : Hid (∀ W n, Tb W d b n [⟨2, 1, pfx, mx⟩] → Calls Tryz.prog 11 #[.pointer (some ⟨d, 0, none⟩), .string ⟨#[112, 114, 101, 102, 105, 120]⟩, .int .i64 1, .int .i64 0, .int .i64 0] W fun e w' => e = .returned (.tuple #[.string ⟨#[77, 45, 120]⟩, .int .i64 0]) ∧ Below W.heap.size W w') := fun W n h => by
    refine (get_any h hg (nm := pfx) (by decide) (s := 1) (v := 0) (p := 0) (by decide) (by decide) (by decide)).mono ?_
    rintro e w' ⟨h1, h2⟩
    unfold getOut at h1
    rw [sure_get2] at h1
    exact ⟨h1, h2⟩
  have HG3 : Hid (∀ W n, Tb W d b n [⟨2, 1, pfx, mx⟩] → Calls Tryz.prog 11 #[.pointer (some ⟨d, 0, none⟩), .string ⟨#[112, 114, 101, 102, 105, 120]⟩, .int .i64 2, .int .i64 0, .int .i64 0] W fun e w' => e = .returned (.tuple #[.string ⟨#[67, 45, 98]⟩, .int .i64 0]) ∧ Below W.heap.size W w') := fun W n h => by
    refine (get_any h hg (nm := pfx) (by decide) (s := 2) (v := 0) (p := 0) (by decide) (by decide) (by decide)).mono ?_
    rintro e w' ⟨h1, h2⟩
    unfold getOut at h1
    rw [sure_get3] at h1
    exact ⟨h1, h2⟩
  have HE := hidK hE
  have HNm := hidK (fun e W => num_any e W)
  have HSc := hidK (fun W => sure_scope (w := W))
  have n1 : ((⟨#[67, 45, 98]⟩ : ByteArray).toList == [67, 45, 98]) = true := by rw [Lib.toList_data]; rfl
  have n2 : ((⟨#[77, 45, 120]⟩ : ByteArray).toList == [77, 45, 120]) = true := by rw [Lib.toList_data]; rfl
  clear hd hb hE hg
  go_enter Tryz.func16, Tryz.ntmps16
  go_wp2_with fail
  refine HNw.out.mono ?_
  rintro e w1 ⟨rfl, ht1, hb1⟩
  have HT1 := hidK ht1
  have HB1 : Hid (Below w.heap.size w w1) := by show Below _ _ _; rw [Hb.out]; exact hb1
  clear ht1 hb1 HNw
  go_wp2_with fail
  refine (HG1.out _ HT1.out).mono ?_
  rintro e w2 ⟨rfl, hb2⟩
  have HT2 := hidK (HT1.out.more hb2)
  have HB2 := hidK (bst HB1.out hb2)
  clear hb2 HT1 HB1 HG1
  go_wp2_with fail
  refine (HSt.out _ (HE.out.below HB2.out) HT2.out).mono ?_
  rintro e w3 ⟨rfl, n3, ht3⟩
  have HT3 : Hid (Tb w3 d b n3 [⟨2, 1, pfx, mx⟩]) := ht3.tb
  have HB3 : Hid (Below w.heap.size w w3) := ⟨ht3.but.os.trans HB2.out.os, ht3.but.tape.trans HB2.out.tape, ht3.but.output.trans HB2.out.output, Nat.le_trans HB2.out.size ht3.but.size, fun i hi => (ht3.but.block i (Nat.lt_of_lt_of_le hi HB2.out.size) (by have := Hb.out; simp; omega)).trans (HB2.out.block i hi)⟩
  clear ht3 HT2 HB2 HSt
  go_wp2_with fail
  refine (HG2.out _ _ HT3.out).mono ?_
  rintro e w4 ⟨rfl, hb4⟩
  have HT4 := hidK (HT3.out.more hb4)
  have HB4 := hidK (bst HB3.out hb4)
  clear hb4 HT3 HB3 HG2
  go_wp2_with fail
  refine (HG3.out _ _ HT4.out).mono ?_
  rintro e w5 ⟨rfl, hb5⟩
  have HB5 := hidK (bst HB4.out hb5)
  clear hb5 HT4 HB4 HG3
  go_wp2_with (first | (go_at_call 13; refine (HNm.out _ _).mono ?_; rintro e w8 ⟨rfl, hw8⟩; subst hw8) | (go_at_call 14; refine (HSc.out _).mono ?_; rintro e w6 ⟨rfl, hb6⟩; have HB6 := hidK (bst HB5.out hb6); clear hb6))
  go_ret
  exact ⟨rfl, HB6.out⟩
end Go.Proofs.YtgdkpmfdpfjdjaaGreatDoor
