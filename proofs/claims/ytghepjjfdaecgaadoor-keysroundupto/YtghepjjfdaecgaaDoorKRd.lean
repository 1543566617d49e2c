/-
  Keys: the code of a name; a name that is read.
-/
import Derived.Test.YtghepjjfdaecgaaDoorKSeq
import Derived.Test.YtghepjjfdaecgaaDoorKFull
namespace Go.Proofs.YtghepjjfdaecgaaDoor
open Go.RowKit
set_option linter.unusedVariables false
set_option maxRecDepth 100000

def cpF (l p : List UInt8) : List UInt8 × Bool := if p.isPrefixOf l then (l.drop p.length, true) else (l, false)
def chrF (l : List UInt8) : Int := if Lib.encodeRune (dec l).1 = l ∧ chrB (dec l).1 = true then ((dec l).1 : Int) else 0
def nrF (l : List UInt8) : Int := match nmT.find? (fun p => decide (p.2 = l)) with
  | some p => p.1
  | none => chrF l
def bcF (l : List UInt8) : Int := match findT (fun s => decide (s.name = l)) spT 0 with
  | some i => 16777217 + (i : Int)
  | none => nrF l
def mdF : List (Int × List UInt8) → List UInt8 → Int → List UInt8 × Int
  | [], l, m => (l, m)
  | (a, t) :: r, l, m => if t.isPrefixOf l then mdF r (l.drop t.length) (m + a) else mdF r l m
def readF (l : List UInt8) : Option (Int × Int) :=
  if validB (bcF (mdF mdT l 0).1) (mdF mdT l 0).2 then some (bcF (mdF mdT l 0).1, (mdF mdT l 0).2) else none
set_option maxHeartbeats 1000000 in
theorem cutPreL_any (l p : List UInt8) (hl : l.length ≤ 140737488355328) (w : World) : Calls Tryd.prog 58 #[.string (str l), .string (str p)] w fun r w' => r = .returned (.tuple #[.string (str (cpF l p).1), .bool (cpF l p).2]) ∧ w = w' := by
  have hH := Tryd.stringslite_HasPrefix (str l) (str p)
  have hP : Lib.hasPrefix (str l).data.toList (str p).data.toList = p.isPrefixOf l := rfl
  rw [hP] at hH
  obtain ⟨A, hA⟩ : ∃ A, str l = A := ⟨_, rfl⟩
  obtain ⟨B, hB⟩ : ∃ B, str p = B := ⟨_, rfl⟩
  have zA : A.size = l.length := by rw [← hA]; rfl
  have zB : B.size = p.length := by rw [← hB]; rfl
  unfold cpF
  cases hp : p.isPrefixOf l with
  | true =>
    have hle : p.length ≤ l.length := (List.isPrefixOf_iff_prefix.1 hp).length_le
    rw [if_pos rfl]
    have hD : str (l.drop p.length) = A.extract p.length A.size := by rw [← hA]; exact (str_dropF l _).symm
    obtain ⟨D, hD2⟩ : ∃ D, A.extract p.length A.size = D := ⟨_, rfl⟩
    have hsl : ∀ W : World, (Instr.slice 9 (.string A) (some (.int .i64 (B.size : Int))) none none).run Tryd.prog W = .ok (.string D) W := fun W => by rw [← hD2]; exact slice_from A p.length _ (by rw [zB]) (by rw [zA]; exact hle) W
    simp only []
    rw [hD, hD2, hA, hB]
    rw [hA, hB, hp] at hH
    have HH : Hid (∀ W, Calls Tryd.prog 71 #[.string A, .string B] W fun e w' => e = .returned (.bool true) ∧ w' = W) := hH
    clear hA hB hH hp hP hD hD2 zA zB hle hl
    go_enter Tryd.func58, Tryd.ntmps58
    go_wp2_with (go_at_call 71; refine (HH.out _).mono ?_; rintro e w1 ⟨rfl, rfl⟩)
    go_ret2
    exact ⟨rfl, rfl⟩
  | false =>
    rw [if_neg (by decide)]
    simp only []
    rw [hA, hB]
    rw [hA, hB, hp] at hH
    have HH : Hid (∀ W, Calls Tryd.prog 71 #[.string A, .string B] W fun e w' => e = .returned (.bool false) ∧ w' = W) := hH
    clear hA hB hH hp hP zA zB hl
    go_enter Tryd.func58, Tryd.ntmps58
    go_wp2_with (go_at_call 71; refine (HH.out _).mono ?_; rintro e w1 ⟨rfl, rfl⟩)
    go_ret2
    exact ⟨rfl, rfl⟩
set_option maxHeartbeats 1000000 in
theorem cutPre_any (l p : List UInt8) (hl : l.length ≤ 140737488355328) (w : World) : Calls Tryd.prog 38 #[.string (str l), .string (str p)] w fun r w' => r = .returned (.tuple #[.string (str (cpF l p).1), .bool (cpF l p).2]) ∧ w = w' := by
  have HC := hidK (cutPreL_any l p hl)
  obtain ⟨x, hx⟩ : ∃ x, str (cpF l p).1 = x := ⟨_, rfl⟩
  obtain ⟨y, hy⟩ : ∃ y, (cpF l p).2 = y := ⟨_, rfl⟩
  obtain ⟨A, hA⟩ : ∃ A, str l = A := ⟨_, rfl⟩
  obtain ⟨B, hB⟩ : ∃ B, str p = B := ⟨_, rfl⟩
  rw [hx, hy, hA, hB] at HC
  rw [hx, hy, hA, hB]
  clear hx hy hA hB hl
  go_enter Tryd.func38, Tryd.ntmps38
  go_wp2_with fail
  refine (HC.out _).mono ?_
  rintro e w1 ⟨rfl, rfl⟩
  go_wp2_with fail
  go_ret2
  exact ⟨rfl, rfl⟩
theorem dec_le2 (l : List UInt8) : (dec l).1 ≤ 1114111 := by
  unfold dec
  split
  · decide
  · exact Lib.rune_le _ _
theorem pfind_yes {l : List (Int × List UInt8)} {t : List UInt8} {k : Nat} {a : Int} (h : l[k]? = some (a, t)) (hno : ∀ (j : Nat) p, j < k → l[j]? = some p → p.2 ≠ t) : l.find? (fun p => decide (p.2 = t)) = some (a, t) := by
  have hk := (List.getElem?_eq_some_iff.1 h).1
  have h2 := (List.getElem?_eq_some_iff.1 h).2
  rw [List.find?_eq_some_iff_getElem]
  refine ⟨by simp, k, hk, h2, fun j hj => ?_⟩
  have := hno j _ hj (List.getElem?_eq_getElem (by omega))
  simpa using this
theorem pfind_no {l : List (Int × List UInt8)} {t : List UInt8} (hno : ∀ (j : Nat) p, l[j]? = some p → p.2 ≠ t) : l.find? (fun p => decide (p.2 = t)) = none := by
  rw [List.find?_eq_none]
  intro p hp
  obtain ⟨j, hj, e2⟩ := List.getElem_of_mem hp
  have := hno j p (by rw [List.getElem?_eq_getElem hj, e2])
  simpa using this
set_option maxHeartbeats 4000000 in
theorem bareCode_any (l : List UInt8) (hl : l.length ≤ 140737488355328) {w : World} (hT : Tabs w) : Calls Tryd.prog 39 #[.string (str l)] w fun r w' => r = .returned (.int .i64 (bcF l)) ∧ Below w.heap.size w w' := by
  obtain ⟨cs, hcs⟩ : ∃ cs, spCs = cs := ⟨_, rfl⟩
  obtain ⟨ds, hds⟩ : ∃ ds, nmCs = ds := ⟨_, rfl⟩
  have HC : Hid (w.rangeAt 0 0 cs) := by rw [← hcs]; exact hT.sp
  have HD : Hid (∀ X, Below w.heap.size w X → X.rangeAt 2 0 ds) := fun X hX => by rw [← hds]; exact (hT.below hX).nm
  have HHi : Hid ((Tryd.prog.info? 59).map (·.size) = some cs.length) := by rw [← hcs]; exact sp_info
  have HHn : Hid ((Tryd.prog.info? 84).map (·.size) = some ds.length) := by rw [← hds]; exact nm_info
  have HAt : Hid (∀ k : Nat, k < 22 → ∃ s, spT[k]? = some s ∧ ∀ W : World, (Instr.index 59 (.agg cs.toArray) (.int .i64 (k : Int))).run Tryd.prog W = .ok (.agg #[.string (str s.name), .string (str s.head), .string (str s.letter), .string (str s.number)]) W) := fun k hk => by rw [← hcs]; exact sp_at ⟨k, hk⟩
  have HAn : Hid (∀ k : Nat, k < 6 → ∃ a b, nmT[k]? = some (a, b) ∧ ∀ W : World, (Instr.index 84 (.agg ds.toArray) (.int .i64 (k : Int))).run Tryd.prog W = .ok (.agg #[.int .i64 a, .string (str b)]) W) := fun k hk => by rw [← hds]; exact nm_at ⟨k, hk⟩
  have HDe : Hid (∀ X, Below w.heap.size w X → Calls Tryd.prog 59 #[.string (str l)] X fun e w' => e = .returned (.tuple #[.int .i32 ((dec l).1 : Int), .int .i64 ((dec l).2 : Int)]) ∧ Below X.heap.size X w') := fun X hX => Tryd.utf8_DecodeRuneInString (str l) X (hT.below hX).u8
  obtain ⟨r, hr⟩ : ∃ r, (dec l).1 = r := ⟨_, rfl⟩
  obtain ⟨k2, hk2⟩ : ∃ k, (dec l).2 = k := ⟨_, rfl⟩
  have hr2 : r ≤ 1114111 := by rw [← hr]; exact dec_le2 l
  rw [hr, hk2] at HDe
  have HEn : Hid (Utf8.encode (r : Int) = str (Lib.encodeRune (r : Int))) := enc_eq (by omega)
  have HIc : Hid (∀ X, Calls Tryd.prog 27 #[.int .i64 (r : Int)] X fun e w' => e = .returned (.bool (chrB r)) ∧ X = w') := isCharacter_any _
  have HChr : Hid (chrF l = if Lib.encodeRune (r : Int) = l ∧ chrB (r : Int) = true then (r : Int) else 0) := by show _ = _; unfold chrF; rw [hr]
  obtain ⟨N, hN⟩ : ∃ N, str l = N := ⟨_, rfl⟩
  have HNN := hidK hN
  rw [hN] at HDe
  rw [hN]
  obtain ⟨R, hR⟩ : ∃ R, bcF l = R := ⟨_, rfl⟩
  have HR := hidK hR
  rw [hR]
  clear hT hcs hds hr hk2 hN hR hl
  go_enter Tryd.func39, Tryd.ntmps39
  go_wp2_with (refine wpList_load_mid rfl 59 (.global 0) rfl 0 0 rfl cs _ HC.out Tryd.underlying59 rfl HHi.out ?_)
  go_loopw [10] (fun v wr => ∃ i : Nat, i ≤ 22 ∧ v = .int .i64 i ∧ Hid (∀ (j : Nat) s, j < i → spT[j]? = some s → decide (s.name = l) = false) ∧ Hid (Below w.heap.size w wr)) (fun v _ => 22 - (intOf v).toNat)
  case atStart => exact ⟨0, Nat.zero_le _, rfl, fun j p hj => by omega, Below.refl _ _⟩
  case round =>
    obtain ⟨i, hi, rfl, HNo, HB⟩ := hrel
    by_cases hlt : i < 22
    · obtain ⟨s, t1, t2⟩ := HAt.out i hlt
      have HT1 := hidK t1
      have hz : (i : Int) < 22 := by omega
      obtain ⟨sn, hsn⟩ : ∃ z, str s.name = z := ⟨_, rfl⟩
      obtain ⟨sh, hsh⟩ : ∃ z, str s.head = z := ⟨_, rfl⟩
      obtain ⟨sl, hsl⟩ : ∃ z, str s.letter = z := ⟨_, rfl⟩
      obtain ⟨sm, hsm⟩ : ∃ z, str s.number = z := ⟨_, rfl⟩
      rw [hsn, hsh, hsl, hsm] at t2
      have HBa : Hid (∀ o, Below w.heap.size w (wr.alloc o)) := fun o => below_step HB.out ((Below.refl _ _).alloc (Nat.le_refl _) o)
      clear t1 hsh hsl hsm
      by_cases hae : s.name = l
      · have e1 : sn = N := by rw [← hsn, ← HNN.out, hae]
        subst e1
        have HF : Hid (16777217 + (i : Int) = R) := by
          show _ = _
          rw [← HR.out]
          unfold bcF
          rw [find_yes HT1.out (by simpa using hae) HNo.out]
          simp
        clear hae hsn
        go_wp2_with fail
        go_ret
        exact ⟨by rw [← HF.out]; rfl, HBa.out _⟩
      · have hab : (sn.toList == N.toList) = false := by rw [← hsn, ← HNN.out]; exact str_eqb hae
        have HN2 : Hid (∀ (j : Nat) s, j < i + 1 → spT[j]? = some s → decide (s.name = l) = false) := fun j p hj hp => by
          by_cases hji : j < i
          · exact HNo.out j p hji hp
          · have : j = i := by omega
            subst this
            rw [HT1.out] at hp
            rw [← Option.some.inj hp]
            simpa using hae
        clear hae hsn
        go_wp2_with fail
        first
          | (go_roundw
             case rel => exact ⟨i + 1, by omega, by first | rfl | go_num, HN2, HBa.out _⟩
             case measure => simp [intOf]; omega)
          | exact ⟨⟨i + 1, by omega, by first | rfl | go_num, HN2, HBa.out _⟩, by simp [intOf]; omega⟩
    · have hi22 : i = 22 := by omega
      subst hi22
      have HB2 : Hid (bcF l = nrF l) := by
        show _ = _
        unfold bcF
        rw [find_no fun j p hp => HNo.out j p (by have := (List.getElem?_eq_some_iff.1 hp).1; rw [spT_len] at this; exact this) hp]
      have HDn := hidK (HD.out wr HB.out)
      clear HNo
      go_wp2_with (refine wpList_load_mid rfl 84 (.global 2) rfl 2 0 rfl ds _ HDn.out Tryd.underlying84 rfl HHn.out ?_)
      go_loopw [22] (fun v wx => ∃ i : Nat, i ≤ 6 ∧ v = .int .i64 i ∧ Hid (∀ (j : Nat) p, j < i → nmT[j]? = some p → p.2 ≠ l) ∧ Hid (Below w.heap.size w wx)) (fun v _ => 6 - (intOf v).toNat)
      case atStart => exact ⟨0, Nat.zero_le _, rfl, fun j p hj => by omega, HB⟩
      case round =>
        obtain ⟨i, hi, rfl, HNo, HBx⟩ := hrel
        by_cases hlt : i < 6
        · obtain ⟨a, b, t1, t2⟩ := HAn.out i hlt
          have HT1 := hidK t1
          have hz : (i : Int) < 6 := by omega
          obtain ⟨sb, hsb⟩ : ∃ z, str b = z := ⟨_, rfl⟩
          rw [hsb] at t2
          have HBa : Hid (∀ o, Below w.heap.size w (wr.alloc o)) := fun o => below_step HBx.out ((Below.refl _ _).alloc (Nat.le_refl _) o)
          clear t1
          by_cases hae : b = l
          · have e1 : sb = N := by rw [← hsb, ← HNN.out, hae]
            subst e1
            have HF : Hid (a = R) := by
              show _ = _
              rw [← HR.out, HB2.out]
              unfold nrF
              have h1 := HT1.out
              rw [hae] at h1
              rw [pfind_yes h1 HNo.out]
            clear hae hsb
            go_wp2_with fail
            go_ret
            exact ⟨by rw [← HF.out]; rfl, HBa.out _⟩
          · have hab : (sb.toList == N.toList) = false := by rw [← hsb, ← HNN.out]; exact str_eqb hae
            have HN2 : Hid (∀ (j : Nat) p, j < i + 1 → nmT[j]? = some p → p.2 ≠ l) := fun j p hj hp => by
              by_cases hji : j < i
              · exact HNo.out j p hji hp
              · have : j = i := by omega
                subst this
                rw [HT1.out] at hp
                rw [← Option.some.inj hp]
                exact hae
            clear hae hsb
            go_wp2_with fail
            first
              | (go_roundw
                 case rel => exact ⟨i + 1, by omega, by first | rfl | go_num, HN2, HBa.out _⟩
                 case measure => simp [intOf]; omega)
              | exact ⟨⟨i + 1, by omega, by first | rfl | go_num, HN2, HBa.out _⟩, by simp [intOf]; omega⟩
        · have hi6 : i = 6 := by omega
          subst hi6
          have HB3 : Hid (R = if Lib.encodeRune (r : Int) = l ∧ chrB (r : Int) = true then (r : Int) else 0) := by
            show _ = _
            rw [← HR.out, HB2.out, ← HChr.out]
            unfold nrF
            rw [pfind_no fun j p hp => HNo.out j p (by have := (List.getElem?_eq_some_iff.1 hp).1; exact this) hp]
          have HDx := hidK (HDe.out wr HBx.out)
          obtain ⟨E, hE⟩ : ∃ E, str (Lib.encodeRune (r : Int)) = E := ⟨_, rfl⟩
          have hEn := HEn.out
          rw [hE] at hEn
          by_cases heq : Lib.encodeRune (r : Int) = l
          · have e1 : E = N := by rw [← hE, ← HNN.out, heq]
            subst e1
            have y1 : (E.toList == E.toList) = true := by simp
            cases hcb : chrB (r : Int) with
            | true =>
              rw [hcb] at HIc
              have HF : Hid ((r : Int) = R) := by show _ = _; rw [HB3.out, if_pos ⟨heq, hcb⟩]
              clear heq hcb hE
              go_wp2_with fail
              refine HDx.out.mono ?_
              rintro e w5 ⟨rfl, hb5⟩
              have HB5 := hidK (below_step HBx.out hb5)
              clear hb5
              go_wp2_with (go_at_call 27; refine (HIc.out _).mono ?_; rintro e w6 ⟨rfl, rfl⟩)
              go_ret
              exact ⟨by rw [← HF.out]; rfl, HB5.out⟩
            | false =>
              rw [hcb] at HIc
              have HF : Hid (0 = R) := by show _ = _; rw [HB3.out, if_neg (by simp [hcb])]
              clear heq hcb hE
              go_wp2_with fail
              refine HDx.out.mono ?_
              rintro e w5 ⟨rfl, hb5⟩
              have HB5 := hidK (below_step HBx.out hb5)
              clear hb5
              go_wp2_with (go_at_call 27; refine (HIc.out _).mono ?_; rintro e w6 ⟨rfl, rfl⟩)
              go_ret
              exact ⟨by rw [← HF.out]; rfl, HB5.out⟩
          · have y1 : (E.toList == N.toList) = false := by rw [← hE, ← HNN.out]; exact str_eqb heq
            have HF : Hid (0 = R) := by show _ = _; rw [HB3.out, if_neg (fun q => heq q.1)]
            clear heq hE
            go_wp2_with fail
            refine HDx.out.mono ?_
            rintro e w5 ⟨rfl, hb5⟩
            have HB5 := hidK (below_step HBx.out hb5)
            clear hb5
            go_wp2_with fail
            go_ret
            exact ⟨by rw [← HF.out]; rfl, HB5.out⟩
end Go.Proofs.YtghepjjfdaecgaaDoor
