/-
  Keys: the code of a name; a name that is read.
  Keys: Read.
-/
import Derived.Test.YtgdkpmfdpfjdjaaGreatDoorKSeq
import Derived.Test.YtgdkpmfdpfjdjaaGreatDoorKFull
import Derived.Laws.ResultCell
namespace Go.Proofs.YtgdkpmfdpfjdjaaGreatDoor
open Go.RowKit
set_option linter.unusedVariables false
set_option maxRecDepth 100000

def cpF (l p : List UInt8) : List UInt8 × Bool := if p.isPrefixOf l then (l.drop p.length, true) else (l, false)
def chrF (l : List UInt8) : Int := if Lib.encodeRune (dec l).1 = l ∧ chrB (dec l).1 = true then ((dec l).1 : Int) else 0
def nrF (l : List UInt8) : Int := match nmT.find? (fun p => decide (p.2 = l)) with
  | some p => p.1
  | none => chrF l
def bcF (l : List UInt8) : Int := match findT (fun s => decide (s.name = l)) spT 0 with
  | some i => 16777217 + (i : Int)
  | none => nrF l
def mdF : List (Int × List UInt8) → List UInt8 → Int → List UInt8 × Int
  | [], l, m => (l, m)
  | (a, t) :: r, l, m => if t.isPrefixOf l then mdF r (l.drop t.length) (m + a) else mdF r l m
def readF (l : List UInt8) : Option (Int × Int) :=
  if validB (bcF (mdF mdT l 0).1) (mdF mdT l 0).2 then some (bcF (mdF mdT l 0).1, (mdF mdT l 0).2) else none
set_option maxHeartbeats 1000000 in
theorem cutPreL_any (l p : List UInt8) (hl : l.length ≤ 140737488355328) (w : World) : Calls Tryz.prog 113 #[.string (str l), .string (str p)] w fun r w' => r = .returned (.tuple #[.string (str (cpF l p).1), .bool (cpF l p).2]) ∧ w = w' := by
  have hH := Tryz.stringslite_HasPrefix (str l) (str p)
  have hP : Lib.hasPrefix (str l).data.toList (str p).data.toList = p.isPrefixOf l := rfl
  rw [hP] at hH
  obtain ⟨A, hA⟩ : ∃ A, str l = A := ⟨_, rfl⟩
  obtain ⟨B, hB⟩ : ∃ B, str p = B := ⟨_, rfl⟩
  have zA : A.size = l.length := by rw [← hA]; rfl
  have zB : B.size = p.length := by rw [← hB]; rfl
  unfold cpF
  cases hp : p.isPrefixOf l with
  | true =>
    have hle : p.length ≤ l.length := (List.isPrefixOf_iff_prefix.1 hp).length_le
    rw [if_pos rfl]
    have hD : str (l.drop p.length) = A.extract p.length A.size := by rw [← hA]; exact (str_dropF l _).symm
    obtain ⟨D, hD2⟩ : ∃ D, A.extract p.length A.size = D := ⟨_, rfl⟩
    have hsl : ∀ W : World, (Instr.slice 9 (.string A) (some (.int .i64 (B.size : Int))) none none).run Tryz.prog W = .ok (.string D) W := fun W => by rw [← hD2]; exact slice_from A p.length _ (by rw [zB]) (by rw [zA]; exact hle) W
    simp only []
    rw [hD, hD2, hA, hB]
    rw [hA, hB, hp] at hH
    have HH : Hid (∀ W, Calls Tryz.prog 134 #[.string A, .string B] W fun e w' => e = .returned (.bool true) ∧ w' = W) := hH
    clear hA hB hH hp hP hD hD2 zA zB hle hl
    go_enter Tryz.func113, Tryz.ntmps113
    go_wp2_with (go_at_call 134; refine (HH.out _).mono ?_; rintro e w1 ⟨rfl, rfl⟩)
    go_ret2
    exact ⟨rfl, rfl⟩
  | false =>
    rw [if_neg (by decide)]
    simp only []
    rw [hA, hB]
    rw [hA, hB, hp] at hH
    have HH : Hid (∀ W, Calls Tryz.prog 134 #[.string A, .string B] W fun e w' => e = .returned (.bool false) ∧ w' = W) := hH
    clear hA hB hH hp hP zA zB hl
    go_enter Tryz.func113, Tryz.ntmps113
    go_wp2_with (go_at_call 134; refine (HH.out _).mono ?_; rintro e w1 ⟨rfl, rfl⟩)
    go_ret2
    exact ⟨rfl, rfl⟩
set_option maxHeartbeats 1000000 in
theorem cutPre_any (l p : List UInt8) (hl : l.length ≤ 140737488355328) (w : World) : Calls Tryz.prog 88 #[.string (str l), .string (str p)] w fun r w' => r = .returned (.tuple #[.string (str (cpF l p).1), .bool (cpF l p).2]) ∧ w = w' := by
  have HC := hidK (cutPreL_any l p hl)
  obtain ⟨x, hx⟩ : ∃ x, str (cpF l p).1 = x := ⟨_, rfl⟩
  obtain ⟨y, hy⟩ : ∃ y, (cpF l p).2 = y := ⟨_, rfl⟩
  obtain ⟨A, hA⟩ : ∃ A, str l = A := ⟨_, rfl⟩
  obtain ⟨B, hB⟩ : ∃ B, str p = B := ⟨_, rfl⟩
  rw [hx, hy, hA, hB] at HC
  rw [hx, hy, hA, hB]
  clear hx hy hA hB hl
  go_enter Tryz.func88, Tryz.ntmps88
  go_wp2_with fail
  refine (HC.out _).mono ?_
  rintro e w1 ⟨rfl, rfl⟩
  go_wp2_with fail
  go_ret2
  exact ⟨rfl, rfl⟩
theorem dec_le2 (l : List UInt8) : (dec l).1 ≤ 1114111 := by
  unfold dec
  split
  · decide
  · exact Lib.rune_le _ _
theorem pfind_yes {l : List (Int × List UInt8)} {t : List UInt8} {k : Nat} {a : Int} (h : l[k]? = some (a, t)) (hno : ∀ (j : Nat) p, j < k → l[j]? = some p → p.2 ≠ t) : l.find? (fun p => decide (p.2 = t)) = some (a, t) := by
  have hk := (List.getElem?_eq_some_iff.1 h).1
  have h2 := (List.getElem?_eq_some_iff.1 h).2
  rw [List.find?_eq_some_iff_getElem]
  refine ⟨by simp, k, hk, h2, fun j hj => ?_⟩
  have := hno j _ hj (List.getElem?_eq_getElem (by omega))
  simpa using this
theorem pfind_no {l : List (Int × List UInt8)} {t : List UInt8} (hno : ∀ (j : Nat) p, l[j]? = some p → p.2 ≠ t) : l.find? (fun p => decide (p.2 = t)) = none := by
  rw [List.find?_eq_none]
  intro p hp
  obtain ⟨j, hj, e2⟩ := List.getElem_of_mem hp
  have := hno j p (by rw [List.getElem?_eq_getElem hj, e2])
  simpa using this
set_option maxHeartbeats 4000000 in
theorem bareCode_any (l : List UInt8) (hl : l.length ≤ 140737488355328) {w : World} (hT : Tabs w) : Calls Tryz.prog 89 #[.string (str l)] w fun r w' => r = .returned (.int .i64 (bcF l)) ∧ Below w.heap.size w w' := by
  obtain ⟨cs, hcs⟩ : ∃ cs, spCs = cs := ⟨_, rfl⟩
  obtain ⟨ds, hds⟩ : ∃ ds, nmCs = ds := ⟨_, rfl⟩
  have HC : Hid (w.rangeAt 1 0 cs) := by rw [← hcs]; exact hT.sp
  have HD : Hid (∀ X, Below w.heap.size w X → X.rangeAt 2 0 ds) := fun X hX => by rw [← hds]; exact (hT.below hX).nm
  have HHi : Hid ((Tryz.prog.info? 166).map (·.size) = some cs.length) := by rw [← hcs]; exact sp_info
  have HHn : Hid ((Tryz.prog.info? 168).map (·.size) = some ds.length) := by rw [← hds]; exact nm_info
  have HAt : Hid (∀ k : Nat, k < 22 → ∃ s, spT[k]? = some s ∧ ∀ W : World, (Instr.index 166 (.agg cs.toArray) (.int .i64 (k : Int))).run Tryz.prog W = .ok (.agg #[.string (str s.name), .string (str s.head), .string (str s.letter), .string (str s.number)]) W) := fun k hk => by rw [← hcs]; exact sp_at ⟨k, hk⟩
  have HAn : Hid (∀ k : Nat, k < 6 → ∃ a b, nmT[k]? = some (a, b) ∧ ∀ W : World, (Instr.index 168 (.agg ds.toArray) (.int .i64 (k : Int))).run Tryz.prog W = .ok (.agg #[.int .i64 a, .string (str b)]) W) := fun k hk => by rw [← hds]; exact nm_at ⟨k, hk⟩
  have HDe : Hid (∀ X, Below w.heap.size w X → Calls Tryz.prog 114 #[.string (str l)] X fun e w' => e = .returned (.tuple #[.int .i32 ((dec l).1 : Int), .int .i64 ((dec l).2 : Int)]) ∧ Below X.heap.size X w') := fun X hX => Tryz.utf8_DecodeRuneInString (str l) X (hT.below hX).u8
  obtain ⟨r, hr⟩ : ∃ r, (dec l).1 = r := ⟨_, rfl⟩
  obtain ⟨k2, hk2⟩ : ∃ k, (dec l).2 = k := ⟨_, rfl⟩
  have hr2 : r ≤ 1114111 := by rw [← hr]; exact dec_le2 l
  rw [hr, hk2] at HDe
  have HEn : Hid (Utf8.encode (r : Int) = str (Lib.encodeRune (r : Int))) := enc_eq (by omega)
  have HIc : Hid (∀ X, Calls Tryz.prog 115 #[.int .i64 (r : Int)] X fun e w' => e = .returned (.bool (chrB r)) ∧ X = w') := isCharacter_any _
  have HChr : Hid (chrF l = if Lib.encodeRune (r : Int) = l ∧ chrB (r : Int) = true then (r : Int) else 0) := by show _ = _; unfold chrF; rw [hr]
  obtain ⟨N, hN⟩ : ∃ N, str l = N := ⟨_, rfl⟩
  have HNN := hidK hN
  rw [hN] at HDe
  rw [hN]
  obtain ⟨R, hR⟩ : ∃ R, bcF l = R := ⟨_, rfl⟩
  have HR := hidK hR
  rw [hR]
  clear hT hcs hds hr hk2 hN hR hl
  go_enter Tryz.func89, Tryz.ntmps89
  go_wp2_with (refine wpList_load_mid rfl 166 (.global 1) rfl 1 0 rfl cs _ HC.out Tryz.underlying166 rfl HHi.out ?_)
  go_loopw [10] (fun v wr => ∃ i : Nat, i ≤ 22 ∧ v = .int .i64 i ∧ Hid (∀ (j : Nat) s, j < i → spT[j]? = some s → decide (s.name = l) = false) ∧ Hid (Below w.heap.size w wr)) (fun v _ => 22 - (intOf v).toNat)
  case atStart => exact ⟨0, Nat.zero_le _, rfl, fun j p hj => by omega, Below.refl _ _⟩
  case round =>
    obtain ⟨i, hi, rfl, HNo, HB⟩ := hrel
    by_cases hlt : i < 22
    · obtain ⟨s, t1, t2⟩ := HAt.out i hlt
      have HT1 := hidK t1
      have hz : (i : Int) < 22 := by omega
      obtain ⟨sn, hsn⟩ : ∃ z, str s.name = z := ⟨_, rfl⟩
      obtain ⟨sh, hsh⟩ : ∃ z, str s.head = z := ⟨_, rfl⟩
      obtain ⟨sl, hsl⟩ : ∃ z, str s.letter = z := ⟨_, rfl⟩
      obtain ⟨sm, hsm⟩ : ∃ z, str s.number = z := ⟨_, rfl⟩
      rw [hsn, hsh, hsl, hsm] at t2
      have HBa : Hid (∀ o, Below w.heap.size w (wr.alloc o)) := fun o => below_step HB.out ((Below.refl _ _).alloc (Nat.le_refl _) o)
      clear t1 hsh hsl hsm
      by_cases hae : s.name = l
      · have e1 : sn = N := by rw [← hsn, ← HNN.out, hae]
        subst e1
        have HF : Hid (16777217 + (i : Int) = R) := by
          show _ = _
          rw [← HR.out]
          unfold bcF
          rw [find_yes HT1.out (by simpa using hae) HNo.out]
          simp
        clear hae hsn
        go_wp2_with fail
        go_ret
        exact ⟨by rw [← HF.out]; rfl, HBa.out _⟩
      · have hab : (sn.toList == N.toList) = false := by rw [← hsn, ← HNN.out]; exact str_eqb hae
        have HN2 : Hid (∀ (j : Nat) s, j < i + 1 → spT[j]? = some s → decide (s.name = l) = false) := fun j p hj hp => by
          by_cases hji : j < i
          · exact HNo.out j p hji hp
          · have : j = i := by omega
            subst this
            rw [HT1.out] at hp
            rw [← Option.some.inj hp]
            simpa using hae
        clear hae hsn
        go_wp2_with fail
        first
          | (go_roundw
             case rel => exact ⟨i + 1, by omega, by first | rfl | go_num, HN2, HBa.out _⟩
             case measure => simp [intOf]; omega)
          | exact ⟨⟨i + 1, by omega, by first | rfl | go_num, HN2, HBa.out _⟩, by simp [intOf]; omega⟩
    · have hi22 : i = 22 := by omega
      subst hi22
      have HB2 : Hid (bcF l = nrF l) := by
        show _ = _
        unfold bcF
        rw [find_no fun j p hp => HNo.out j p (by have := (List.getElem?_eq_some_iff.1 hp).1; rw [spT_len] at this; exact this) hp]
      have HDn := hidK (HD.out wr HB.out)
      clear HNo
      go_wp2_with (refine wpList_load_mid rfl 168 (.global 2) rfl 2 0 rfl ds _ HDn.out Tryz.underlying168 rfl HHn.out ?_)
      go_loopw [22] (fun v wx => ∃ i : Nat, i ≤ 6 ∧ v = .int .i64 i ∧ Hid (∀ (j : Nat) p, j < i → nmT[j]? = some p → p.2 ≠ l) ∧ Hid (Below w.heap.size w wx)) (fun v _ => 6 - (intOf v).toNat)
      case atStart => exact ⟨0, Nat.zero_le _, rfl, fun j p hj => by omega, HB⟩
      case round =>
        obtain ⟨i, hi, rfl, HNo, HBx⟩ := hrel
        by_cases hlt : i < 6
        · obtain ⟨a, b, t1, t2⟩ := HAn.out i hlt
          have HT1 := hidK t1
          have hz : (i : Int) < 6 := by omega
          obtain ⟨sb, hsb⟩ : ∃ z, str b = z := ⟨_, rfl⟩
          rw [hsb] at t2
          have HBa : Hid (∀ o, Below w.heap.size w (wr.alloc o)) := fun o => below_step HBx.out ((Below.refl _ _).alloc (Nat.le_refl _) o)
          clear t1
          by_cases hae : b = l
          · have e1 : sb = N := by rw [← hsb, ← HNN.out, hae]
            subst e1
            have HF : Hid (a = R) := by
              show _ = _
              rw [← HR.out, HB2.out]
              unfold nrF
              have h1 := HT1.out
              rw [hae] at h1
              rw [pfind_yes h1 HNo.out]
            clear hae hsb
            go_wp2_with fail
            go_ret
            exact ⟨by rw [← HF.out]; rfl, HBa.out _⟩
          · have hab : (sb.toList == N.toList) = false := by rw [← hsb, ← HNN.out]; exact str_eqb hae
            have HN2 : Hid (∀ (j : Nat) p, j < i + 1 → nmT[j]? = some p → p.2 ≠ l) := fun j p hj hp => by
              by_cases hji : j < i
              · exact HNo.out j p hji hp
              · have : j = i := by omega
                subst this
                rw [HT1.out] at hp
                rw [← Option.some.inj hp]
                exact hae
            clear hae hsb
            go_wp2_with fail
            first
              | (go_roundw
                 case rel => exact ⟨i + 1, by omega, by first | rfl | go_num, HN2, HBa.out _⟩
                 case measure => simp [intOf]; omega)
              | exact ⟨⟨i + 1, by omega, by first | rfl | go_num, HN2, HBa.out _⟩, by simp [intOf]; omega⟩
        · have hi6 : i = 6 := by omega
          subst hi6
          have HB3 : Hid (R = if Lib.encodeRune (r : Int) = l ∧ chrB (r : Int) = true then (r : Int) else 0) := by
            show _ = _
            rw [← HR.out, HB2.out, ← HChr.out]
            unfold nrF
            rw [pfind_no fun j p hp => HNo.out j p (by have := (List.getElem?_eq_some_iff.1 hp).1; exact this) hp]
          have HDx := hidK (HDe.out wr HBx.out)
          obtain ⟨E, hE⟩ : ∃ E, str (Lib.encodeRune (r : Int)) = E := ⟨_, rfl⟩
          have hEn := HEn.out
          rw [hE] at hEn
          by_cases heq : Lib.encodeRune (r : Int) = l
          · have e1 : E = N := by rw [← hE, ← HNN.out, heq]
            subst e1
            have y1 : (E.toList == E.toList) = true := by simp
            cases hcb : chrB (r : Int) with
            | true =>
              rw [hcb] at HIc
              have HF : Hid ((r : Int) = R) := by show _ = _; rw [HB3.out, if_pos ⟨heq, hcb⟩]
              clear heq hcb hE
              go_wp2_with fail
              refine HDx.out.mono ?_
              rintro e w5 ⟨rfl, hb5⟩
              have HB5 := hidK (below_step HBx.out hb5)
              clear hb5
              go_wp2_with (go_at_call 115; refine (HIc.out _).mono ?_; rintro e w6 ⟨rfl, rfl⟩)
              go_ret
              exact ⟨by rw [← HF.out]; rfl, HB5.out⟩
            | false =>
              rw [hcb] at HIc
              have HF : Hid (0 = R) := by show _ = _; rw [HB3.out, if_neg (by simp [hcb])]
              clear heq hcb hE
              go_wp2_with fail
              refine HDx.out.mono ?_
              rintro e w5 ⟨rfl, hb5⟩
              have HB5 := hidK (below_step HBx.out hb5)
              clear hb5
              go_wp2_with (go_at_call 115; refine (HIc.out _).mono ?_; rintro e w6 ⟨rfl, rfl⟩)
              go_ret
              exact ⟨by rw [← HF.out]; rfl, HB5.out⟩
          · have y1 : (E.toList == N.toList) = false := by rw [← hE, ← HNN.out]; exact str_eqb heq
            have HF : Hid (0 = R) := by show _ = _; rw [HB3.out, if_neg (fun q => heq q.1)]
            clear heq hE
            go_wp2_with fail
            refine HDx.out.mono ?_
            rintro e w5 ⟨rfl, hb5⟩
            have HB5 := hidK (below_step HBx.out hb5)
            clear hb5
            go_wp2_with fail
            go_ret
            exact ⟨by rw [← HF.out]; rfl, HB5.out⟩
end Go.Proofs.YtgdkpmfdpfjdjaaGreatDoor

namespace Go.Proofs.YtgdkpmfdpfjdjaaGreatDoor
open Go.RowKit
set_option linter.unusedVariables false
set_option maxRecDepth 100000

theorem ret_cell2 {P : Program} {fn : Func} {p u : Tmp} {ty : TypeId} (h : fn.results = #[.cell p ty, .tmp u]) {a : Act} {w : World} {R : Ending → World → Prop} {g : Nat} {t : TypeId} {cs : Array Value} {fr : Nat × Nat} {d : TypeDesc}
    (hp : a.tmps.getD p undef = .pointer (some ⟨g, 0, none⟩)) (hg : w.heap[g]? = some (.cells cs t fr)) (hu : P.underlying ty = some d) (hd : (match d with | .struct _ | .array _ _ => true | _ => false) = true) (hi : (P.info? ty).map (·.size) = some cs.size)
    (hdf : a.defers = []) (hR : R (.returned (.tuple #[.agg cs, a.tmps.getD u undef])) w) : bodyPost P fn R .ret a w := by
  refine bodyPost_ret ?_ hdf hR
  rw [results_cell_tmp h, hp]
  have h1 : (asAddr (.pointer (some ⟨g, 0, none⟩))).run P w = .ok ⟨g, 0, none⟩ w := rfl
  rw [h1]
  simp only [Result.andThen]
  rw [run_loadVar_row w g t ty cs fr d hg hu hd hi]
/-- What Read tells. -/
def rdV (l : List UInt8) : Value := match readF l with
  | some k => .tuple #[.agg #[.int .i64 k.1, .int .i64 k.2], .int .i64 0]
  | none => .tuple #[.agg #[.int .i64 0, .int .i64 0], .int .i64 210]
/-- The two blocks: what is told, what is read. -/
structure Rd (w W : World) (Z K : Nat) (m : Int) : Prop where
  below : Below w.heap.size w W
  z : W.heap[Z]? = some (.cells #[.int .i64 0, .int .i64 0] 115 (0, 0))
  k : W.heap[K]? = some (.cells #[.int .i64 0, .int .i64 m] 115 (0, 0))
  zk : w.heap.size ≤ Z ∧ Z < K
theorem Rd.more {w W W' : World} {Z K : Nat} {m : Int} (h : Rd w W Z K m) (hb : Below W.heap.size W W') : Rd w W' Z K m :=
  ⟨below_step h.below hb, (hb.block Z (lt_block h.z)).trans h.z, (hb.block K (lt_block h.k)).trans h.k, h.zk⟩
theorem Rd.add {w W : World} {Z K : Nat} {m : Int} (h : Rd w W Z K m) (n : Int) : Rd w (W.setCell ⟨K, 1, none⟩ (.int .i64 n)) Z K n :=
  ⟨h.below.setCell (p := ⟨K, 1, none⟩) (by have := h.zk; simp only; omega) _, put_other h.z (by have := h.zk; omega) _ _, put_at h.k 1 _, h.zk⟩
theorem mdF_at : ∀ (r : List (Int × List UInt8)) (l : List UInt8) (m : Int) (a : Int) (t : List UInt8), mdF ((a, t) :: r) l m = if t.isPrefixOf l then mdF r (l.drop t.length) (m + a) else mdF r l m := fun _ _ _ _ _ => rfl
set_option maxHeartbeats 8000000 in
theorem read_any (l : List UInt8) (hl : l.length ≤ 140737488355328) {w : World} (hT : Tabs w) : Calls Tryz.prog 68 #[.string (str l)] w fun r w' => r = .returned (rdV l) ∧ Below w.heap.size w w' := by
  obtain ⟨V, hV⟩ : ∃ V, (w.alloc (.cells #[.int .i64 0, .int .i64 0] 115)).alloc (.cells #[.int .i64 0, .int .i64 0] 115) = V := ⟨_, rfl⟩
  obtain ⟨Z, hZ⟩ : ∃ Z, w.heap.size = Z := ⟨_, rfl⟩
  have hrd : Rd w V Z (Z + 1) 0 := by
    refine ⟨?_, ?_, ?_, by omega⟩
    · rw [← hV]; exact ((Below.refl _ _).alloc (Nat.le_refl _) _).alloc (by simp) _
    · rw [← hV, ← hZ]; exact alloc_at (heap_alloc_new w _) _
    · rw [← hV, ← hZ]
      have := heap_alloc_new (w.alloc (.cells #[.int .i64 0, .int .i64 0] 115)) (.cells #[.int .i64 0, .int .i64 0] 115)
      simpa using this
  obtain ⟨cs, hcs⟩ : ∃ cs, mdCs = cs := ⟨_, rfl⟩
  have HC : Hid (V.rangeAt 0 0 cs) := by rw [← hcs]; exact (hT.below hrd.below).md
  have HHi : Hid ((Tryz.prog.info? 144).map (·.size) = some cs.length) := by rw [← hcs]; exact md_info
  have HAt : Hid (∀ k : Nat, k < 3 → ∃ a b, mdT[k]? = some (a, b) ∧ ∀ W : World, (Instr.index 144 (.agg cs.toArray) (.int .i64 (k : Int))).run Tryz.prog W = .ok (.agg #[.int .i64 a, .string (str b)]) W) := fun k hk => by rw [← hcs]; exact md_at ⟨k, hk⟩
  have HTb := hidK (fun X (hX : Below w.heap.size w X) => hT.below hX)
  obtain ⟨R, hR⟩ : ∃ R, rdV l = R := ⟨_, rfl⟩
  have HR := hidK hR
  rw [hR]
  have HRd := hidK hrd
  have HL := hidK hl
  have HZ := hidK hZ
  clear hT hcs hR hrd hl
  go_enter Tryz.func68, Tryz.ntmps68
  go_wp2_with (refine wpList_load_mid rfl 144 (.global 0) rfl 0 0 rfl cs _ HC.out Tryz.underlying144 rfl HHi.out ?_)
  go_loopw [10, 0] (fun v nv wr => ∃ (i : Nat) (x : List UInt8) (m : Int), i ≤ 3 ∧ v = .int .i64 i ∧ nv = .string (str x) ∧ Hid (Rd w wr Z (Z + 1) m) ∧ Hid (mdF (mdT.drop i) x m = mdF mdT l 0 ∧ x.length ≤ l.length ∧ 0 ≤ m ∧ m ≤ 4 * i)) (fun v _ _ => 3 - (intOf v).toNat)
  case atStart => exact ⟨0, l, 0, Nat.zero_le _, rfl, rfl, HRd, ⟨rfl, Nat.le_refl _, Int.le_refl _, Int.le_refl _⟩⟩
  case round =>
    obtain ⟨i, x, m, hi, rfl, rfl, HM, HX⟩ := hrel
    by_cases hlt : i < 3
    · obtain ⟨a, b, t1, t2⟩ := HAt.out i hlt
      have hdr : mdT.drop i = (a, b) :: mdT.drop (i + 1) := by
        obtain ⟨h1, h2⟩ := List.getElem?_eq_some_iff.1 t1
        rw [List.drop_eq_getElem_cons h1, h2]
      have ha : 1 ≤ a ∧ a ≤ 4 := by
        have hm : (a, b) ∈ mdT := List.mem_of_getElem? t1
        simp only [mdT, List.mem_cons, List.not_mem_nil, or_false, Prod.mk.injEq] at hm
        omega
      have HCp := hidK (cutPre_any x b (Nat.le_trans HX.out.2.1 HL.out))
      have hst := HX.out.1
      rw [hdr, mdF_at] at hst
      have HSt := hidK hst
      have hz : (i : Int) < 3 := by omega
      have hmb := HX.out.2.2
      obtain ⟨sb, hsb⟩ : ∃ z, str b = z := ⟨_, rfl⟩
      rw [hsb] at t2 HCp
      obtain ⟨Y, hY⟩ : ∃ Y, wr.alloc (.cells #[.int .i64 a, .string sb] 143) = Y := ⟨_, rfl⟩
      obtain ⟨Q, hQ⟩ : ∃ Q, wr.heap.size = Q := ⟨_, rfl⟩
      have hrY := HM.out.more (W' := Y) (by rw [← hY]; exact (Below.refl _ _).alloc (Nat.le_refl _) _)
      have hqb : Y.heap[Q]? = some (.cells #[.int .i64 a, .string sb] 143 (0, 0)) := by rw [← hY, ← hQ]; exact heap_alloc_new wr _
      have q0 : Y.cell? ⟨Q, 0, none⟩ = some (.int .i64 a) := cell_at hqb 0
      have q1 : Y.cell? ⟨Q, 1, none⟩ = some (.string sb) := cell_at hqb 1
      have q2 : Y.cell? ⟨Z + 1, 1, none⟩ = some (.int .i64 m) := cell_at hrY.k 1
      have q3 : Y.frozen? ⟨Z + 1, 1, none⟩ = false := free_at hrY.k 1
      have HY2 := hidK hrY
      obtain ⟨X, hXs⟩ : ∃ X, str x = X := ⟨_, rfl⟩
      rw [hXs] at HCp ⊢
      have HXs := hidK hXs
      have HA := hidK (And.intro ha hmb)
      have hw : IntKind.i64.wrap (m + a) = m + a := by
        have := IntKind.wrap_i64 (m + a)
        omega
      clear t1 hdr hst hsb hrY hqb hXs ha hmb
      cases hpr : b.isPrefixOf x with
      | true =>
        have hcp : cpF x b = (x.drop b.length, true) := by unfold cpF; rw [if_pos hpr]
        rw [hcp] at HCp
        have HS2 : Hid (mdF (mdT.drop (i + 1)) (x.drop b.length) (m + a) = mdF mdT l 0) := by
          have h := HSt.out
          rw [if_pos hpr] at h
          exact h
        have HLn : Hid ((x.drop b.length).length ≤ l.length) := by
          have := HX.out.2.1
          show _ ≤ _
          rw [List.length_drop]; omega
        have HAd := hidK (HY2.out.add (m + a))
        clear hcp hpr
        go_wp2_with (go_at_call 88; refine (HCp.out _).mono ?_; rintro e w5 ⟨rfl, rfl⟩)
        go_roundw
        case rel => exact ⟨i + 1, _, m + a, by omega, by first | rfl | go_num, rfl, HAd, ⟨HS2.out, HLn.out, by have := HA.out; omega, by have := HA.out; omega⟩⟩
        case measure => simp [intOf]; omega
      | false =>
        have hcp : cpF x b = (x, false) := by unfold cpF; rw [if_neg (by simp [hpr])]
        rw [hcp] at HCp
        have HS2 : Hid (mdF (mdT.drop (i + 1)) x m = mdF mdT l 0) := by
          have h := HSt.out
          rw [if_neg (by simp [hpr])] at h
          exact h
        clear hcp hpr
        go_wp2_with (go_at_call 88; refine (HCp.out _).mono ?_; rintro e w5 ⟨rfl, rfl⟩)
        go_roundw
        case rel => exact ⟨i + 1, x, m, by omega, by first | rfl | go_num, by rw [HXs.out], HY2, ⟨HS2.out, HX.out.2.1, HX.out.2.2.1, by have := HX.out.2.2.2; omega⟩⟩
        case measure => simp [intOf]; omega
    · have hi3 : i = 3 := by omega
      subst hi3
      have hmd : mdF mdT l 0 = (x, m) := HX.out.1.symm
      have HBc := hidK (bareCode_any x (Nat.le_trans HX.out.2.1 HL.out) (HTb.out _ HM.out.below))
      obtain ⟨c, hc⟩ : ∃ c, bcF x = c := ⟨_, rfl⟩
      rw [hc] at HBc
      have hrf : readF l = if validB c m then some (c, m) else none := by unfold readF; rw [hmd, hc]
      have HRf := hidK hrf
      have HVa := hidK (valid_any c m)
      obtain ⟨X, hXs⟩ : ∃ X, str x = X := ⟨_, rfl⟩
      rw [hXs] at HBc ⊢
      clear hmd hc hrf hXs
      go_wp2_with fail
      refine HBc.out.mono ?_
      rintro e w5 ⟨rfl, hb5⟩
      have hr5 := HM.out.more hb5
      have a0 : w5.cell? ⟨Z + 1, 0, none⟩ = some (.int .i64 0) := cell_at hr5.k 0
      have a1 : w5.frozen? ⟨Z + 1, 0, none⟩ = false := free_at hr5.k 0
      obtain ⟨U, hU⟩ : ∃ U, w5.setCell ⟨Z + 1, 0, none⟩ (.int .i64 c) = U := ⟨_, rfl⟩
      have hku : U.heap[Z + 1]? = some (.cells #[.int .i64 c, .int .i64 m] 115 (0, 0)) := by rw [← hU]; exact put_at hr5.k 0 _
      have hzu : U.heap[Z]? = some (.cells #[.int .i64 0, .int .i64 0] 115 (0, 0)) := by rw [← hU]; exact put_other hr5.z (by omega) _ _
      have hbu : Below w.heap.size w U := by rw [← hU]; exact hr5.below.setCell (p := ⟨Z + 1, 0, none⟩) (by have := hr5.zk; simp only; omega) _
      have u0 : U.cell? ⟨Z + 1, 0, none⟩ = some (.int .i64 c) := cell_at hku 0
      have u1 : U.cell? ⟨Z + 1, 1, none⟩ = some (.int .i64 m) := cell_at hku 1
      have HU := hidK (And.intro hku (And.intro hzu hbu))
      clear hb5 hr5 hku hzu hbu
      go_wp2_with fail
      refine (HVa.out _).mono ?_
      rintro e w6 ⟨rfl, hb6⟩
      have hk6 : w6.heap[Z + 1]? = some (.cells #[.int .i64 c, .int .i64 m] 115 (0, 0)) := (hb6.block _ (lt_block HU.out.1)).trans HU.out.1
      have hz6 : w6.heap[Z]? = some (.cells #[.int .i64 0, .int .i64 0] 115 (0, 0)) := (hb6.block _ (lt_block HU.out.2.1)).trans HU.out.2.1
      have HB6 := hidK (below_step HU.out.2.2 hb6)
      have c0 : w6.cell? ⟨Z + 1, 0, none⟩ = some (.int .i64 c) := cell_at hk6 0
      have c1 : w6.cell? ⟨Z + 1, 1, none⟩ = some (.int .i64 m) := cell_at hk6 1
      have d0 : w6.cell? ⟨Z, 0, none⟩ = some (.int .i64 0) := cell_at hz6 0
      have d1 : w6.cell? ⟨Z, 1, none⟩ = some (.int .i64 0) := cell_at hz6 1
      have e0 : w6.frozen? ⟨Z, 0, none⟩ = false := free_at hz6 0
      have e1 : w6.frozen? ⟨Z, 1, none⟩ = false := free_at hz6 1
      have HZ6 := hidK hz6
      clear hb6 hk6 hz6 u0 u1 a0 a1
      have HBz : Hid (∀ a b : Int, Below w.heap.size w ((w6.setCell ⟨Z, 0, none⟩ (.int .i64 a)).setCell ⟨Z, 1, none⟩ (.int .i64 b))) := fun a b => (HB6.out.setCell (p := ⟨Z, 0, none⟩) (by have := HZ.out; simp only; omega) _).setCell (p := ⟨Z, 1, none⟩) (by have := HZ.out; simp only; omega) _
      cases hv : validB c m with
      | true =>
        have HF : Hid (.tuple #[.agg #[.int .i64 c, .int .i64 m], .int .i64 0] = R) := by
          show _ = _
          rw [← HR.out]
          unfold rdV
          rw [HRf.out, hv, if_pos rfl]
        clear hv
        go_wp2_with fail
        refine ret_cell2 rfl rfl (cs := #[.int .i64 c, .int .i64 m]) (put_at (put_at HZ6.out 0 _) 1 _) Tryz.underlying115 rfl infoKey rfl ?_
        exact ⟨by rw [← HF.out]; rfl, by first | exact HBz.out _ _ | (rw [← HZ.out]; exact HBz.out _ _)⟩
      | false =>
        have HF : Hid (.tuple #[.agg #[.int .i64 0, .int .i64 0], .int .i64 210] = R) := by
          show _ = _
          rw [← HR.out]
          unfold rdV
          rw [HRf.out, hv, if_neg (by decide)]
        clear hv
        go_wp2_with fail
        refine ret_cell2 rfl rfl (cs := #[.int .i64 0, .int .i64 0]) (put_at (put_at HZ6.out 0 _) 1 _) Tryz.underlying115 rfl infoKey rfl ?_
        exact ⟨by rw [← HF.out]; rfl, by first | exact HBz.out _ _ | (rw [← HZ.out]; exact HBz.out _ _)⟩
end Go.Proofs.YtgdkpmfdpfjdjaaGreatDoor
