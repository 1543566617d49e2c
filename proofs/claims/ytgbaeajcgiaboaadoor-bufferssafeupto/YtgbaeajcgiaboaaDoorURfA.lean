/-
  Buffers: the document's: at, count, meant.
-/
import Derived.Test.YtgbaeajcgiaboaaDoorURen
import Derived.Test.YtgbaeajcgiaboaaDoorURNu
import Derived.Test.YtgbaeajcgiaboaaDoorURNm
namespace Go.Proofs.YtgbaeajcgiaboaaDoor
open Go.RowKit
set_option linter.unusedVariables false
set_option maxRecDepth 100000

/-- The document's stack in memory. -/
def ItsAt (w : World) (v : Value) (l : List Kp) : Prop := Row w 87 3 v l.length (cellsK l)
theorem underI : Tryd.prog.underlying 60 = some (.slice 87) := Tryd.underlying60
theorem infoI : (Tryd.prog.info? 87).map (fun i => (i.zero, i.size, i.bytes)) = some (some zK, 3, 40) := by kernel_rfl
theorem infoRB : (Tryd.prog.info? 62).map (·.size) = some 3 := by kernel_rfl
theorem ItsAt.shape {w : World} {v : Value} {l : List Kp} (h : ItsAt w v l) : ∃ ad cap, v = .slice ad l.length cap ∧ l.length ≤ cap ∧ cap ≤ maxLen ∧ (ad = none → l = [] ∧ cap = 0) ∧ ∀ a, ad = some a → ∃ g o, a = ⟨g, o, none⟩ ∧ v.ownBlock = some g ∧ g < w.heap.size ∧ ∀ W : World, W.heap[g]? = w.heap[g]? → (∀ j (hj : j < l.length) (c : Nat) u, (encK l[j])[c]? = some u → W.cell? ⟨g, o + j * 3 + c, none⟩ = some u) ∧ ∀ q, W.frozen? ⟨g, q, none⟩ = false := by
  obtain ⟨ad, cap, rfl, h1, h2, h3, h4⟩ := Row.shape h
  refine ⟨ad, cap, rfl, h1, h2, fun e => ⟨List.eq_nil_of_length_eq_zero (h3 e).1, (h3 e).2⟩, fun a ha => ?_⟩
  obtain ⟨g, o, rfl, h5, h6, h7⟩ := h4 a ha
  refine ⟨g, o, rfl, h5, h6, fun W hW => ⟨fun j hj c u hu => ?_, fun q => ?_⟩⟩
  · have := (h7 W hW).1 (j * 3 + c) u (cellsK_at l j hj c u hu)
    rwa [← Nat.add_assoc] at this
  · obtain ⟨cur, hc⟩ := Row.block h h5
    exact free_at (hW.trans hc) q
theorem ItsAt.below {w w' : World} {v : Value} {l : List Kp} (h : ItsAt w v l) (hb : Below w.heap.size w w') : ItsAt w' v l := Row.below h hb
theorem ItsAt.sl {w : World} {v : Value} {l : List Kp} (h : ItsAt w v l) : ∃ a n p, v = .slice a n p := by
  obtain ⟨ad, cp, e, _⟩ := h.shape
  exact ⟨_, _, _, e⟩
set_option maxHeartbeats 4000000 in
theorem rAt_any {w : World} {v : Value} {l : List Kp} (h : ItsAt w v l) (lim c : Int) (name : ByteArray) :
    Calls Tryd.prog 49 #[.agg #[v, .int .i64 lim, .int .i64 c], .string name] w fun e w' => e = .returned (.int .i64 (fidx (nmd name) l)) ∧ Below w.heap.size w w' := by
  obtain ⟨ad, cp, rfl, hle, hcm, hnil, hsome⟩ := h.shape
  obtain ⟨n, hn⟩ : ∃ n, l.length = n := ⟨_, rfl⟩
  have HN := hidK hn
  have HS := hidK hsome
  have HNil := hidK hnil
  have hn63 : n ≤ 9223372036854775807 := by unfold maxLen at hcm; omega
  obtain ⟨R, hR⟩ : ∃ R, fidx (nmd name) l = R := ⟨_, rfl⟩
  have HR := hidK hR
  rw [hR, hn]
  obtain ⟨W1, hW1⟩ : ∃ W, w.alloc (.cells #[.slice ad n cp, .int .i64 lim, .int .i64 c] 62) = W := ⟨_, rfl⟩
  obtain ⟨Q, hQ⟩ : ∃ Q, w.heap.size = Q := ⟨_, rfl⟩
  have a1 : W1.heap[Q]? = some (.cells #[.slice ad n cp, .int .i64 lim, .int .i64 c] 62 (0, 0)) := by rw [← hW1, ← hQ]; exact heap_alloc_new w _
  have b1 : Below w.heap.size w W1 := by rw [← hW1]; exact (Below.refl _ _).alloc (Nat.le_refl _) _
  have q0 := cell_at a1 0
  have HB := hidK b1
  clear hn hsome hnil h hle hcm hR a1 b1
  go_enter Tryd.func49, Tryd.ntmps49
  go_wp2_with fail
  go_loopw [5] (fun i wr => ∃ k : Nat, k ≤ n ∧ i = .int .i64 k ∧ W1 = wr ∧ Hid (∀ j (hj : j < l.length), j < k → (nmd name) l[j] = false)) (fun i _ => n - (intOf i).toNat)
  case atStart => exact ⟨0, Nat.zero_le _, rfl, by trivial, fun j _ hj => by omega⟩
  case round =>
    obtain ⟨k, hk, rfl, rfl, HT⟩ := hrel
    by_cases hlt : k < n
    · have hkl : k < l.length := by rw [HN.out]; exact hlt
      cases ad with
      | none => have := (HNil.out rfl).1; rw [this] at hkl; simp at hkl
      | some a =>
        obtain ⟨g0, o0, rfl, hob, hgl, hat⟩ := HS.out _ rfl
        have hcells := fun c u hu => (hat W1 (HB.out.block g0 hgl)).1 k hkl c u hu
        obtain ⟨⟨n1, t1, a1⟩, hx⟩ : ∃ q, l[k] = q := ⟨_, rfl⟩
        rw [hx] at hcells
        have c0 : W1.cell? ⟨g0, o0 + k * 3, none⟩ = some (.string n1) := hcells 0 _ rfl
        have hi1 : (k : Int) < (n : Int) := by omega
        have hpk : (nmd name) l[k] = decide (n1 = name) := by rw [hx]; rfl
        clear hcells hat hx hob hgl
        by_cases hnn : n1 = name
        · have HQ : Hid ((k : Int) = R) := by
            have := fidx_hit (p := nmd name) (l := l) hkl (by rw [hpk]; exact decide_eq_true hnn) (fun j hj hjk => HT.out j hj hjk)
            exact this.symm.trans HR.out
          subst hnn
          have he : (n1.toList == n1.toList) = true := by simp
          clear hpk
          go_wp2_with fail
          go_ret
          exact ⟨by rw [HQ.out]; rfl, HB.out⟩
        · have HQ : Hid (∀ j (hj : j < l.length), j < k + 1 → (nmd name) l[j] = false) := fun j hj hjk => by
            by_cases e : j = k
            · subst e; rw [hpk]; exact decide_eq_false hnn
            · exact HT.out j hj (by omega)
          have he : (n1.toList == name.toList) = false := (Lib.bytes_beq_false_iff _ _).2 hnn
          clear hpk
          go_wp2_with fail
          go_roundw
          case rel => exact ⟨k + 1, by omega, by go_num, by trivial, HQ⟩
          case measure => simp [intOf]; omega
    · have HQ : Hid (R = -1) := by rw [← HR.out]; exact fidx_miss fun j hj => HT.out j hj (by have := HN.out; omega)
      clear HT
      go_wp2_with fail
      go_ret
      exact ⟨by rw [HQ.out]; rfl, HB.out⟩
/-- How many, of the one kind or the other. -/
def cnt (a : Bool) (l : List Kp) : Nat := if a then autos l else named l
theorem cnt_take (a : Bool) (l : List Kp) (k : Nat) (hk : k < l.length) : cnt a (l.take (k + 1)) = cnt a (l.take k) + (if l[k].a = a then 1 else 0) := by
  cases a
  · show named _ = named _ + _
    rw [named_take l k hk]
    cases l[k].a <;> rfl
  · show autos _ = autos _ + _
    rw [autos_take l k hk]
theorem cnt_le (a : Bool) (l : List Kp) : cnt a l ≤ l.length := by
  have := autos_named l
  unfold cnt
  split <;> omega
set_option maxHeartbeats 4000000 in
theorem rCount_any {w : World} {v : Value} {l : List Kp} (h : ItsAt w v l) (lim c : Int) (au : Bool) :
    Calls Tryd.prog 55 #[.agg #[v, .int .i64 lim, .int .i64 c], .bool au] w fun e w' => e = .returned (.int .i64 (cnt au l : Nat)) ∧ Below w.heap.size w w' := by
  obtain ⟨ad, cp, rfl, hle, hcm, hnil, hsome⟩ := h.shape
  obtain ⟨n, hn⟩ : ∃ n, l.length = n := ⟨_, rfl⟩
  have HN := hidK hn
  have HS := hidK hsome
  have HNil := hidK hnil
  have hn63 : n ≤ 9223372036854775807 := by unfold maxLen at hcm; omega
  obtain ⟨R, hR⟩ : ∃ R, cnt au l = R := ⟨_, rfl⟩
  have HR := hidK hR
  rw [hR, hn]
  obtain ⟨W1, hW1⟩ : ∃ W, w.alloc (.cells #[.slice ad n cp, .int .i64 lim, .int .i64 c] 62) = W := ⟨_, rfl⟩
  obtain ⟨Q, hQ⟩ : ∃ Q, w.heap.size = Q := ⟨_, rfl⟩
  have a1 : W1.heap[Q]? = some (.cells #[.slice ad n cp, .int .i64 lim, .int .i64 c] 62 (0, 0)) := by rw [← hW1, ← hQ]; exact heap_alloc_new w _
  have b1 : Below w.heap.size w W1 := by rw [← hW1]; exact (Below.refl _ _).alloc (Nat.le_refl _) _
  have q0 := cell_at a1 0
  have HB := hidK b1
  clear hn hsome hnil h hle hcm hR a1 b1
  go_enter Tryd.func55, Tryd.ntmps55
  go_wp2_with fail
  go_loopw [5, 6] (fun z i wr => ∃ k m : Nat, k ≤ n ∧ m ≤ k ∧ z = .int .i64 m ∧ i = .int .i64 k ∧ W1 = wr ∧ Hid (cnt au (l.take k) = m)) (fun _ i _ => n - (intOf i).toNat)
  case atStart => exact ⟨0, 0, Nat.zero_le _, Nat.zero_le _, rfl, rfl, by trivial, by cases au <;> rfl⟩
  case round =>
    obtain ⟨k, m, hk, hm, rfl, rfl, rfl, HT⟩ := hrel
    by_cases hlt : k < n
    · have hkl : k < l.length := by rw [HN.out]; exact hlt
      cases ad with
      | none => have := (HNil.out rfl).1; rw [this] at hkl; simp at hkl
      | some a =>
        obtain ⟨g0, o0, rfl, hob, hgl, hat⟩ := HS.out _ rfl
        have hcells := fun c u hu => (hat W1 (HB.out.block g0 hgl)).1 k hkl c u hu
        have ht := cnt_take au l k hkl
        obtain ⟨⟨n1, t1, a1⟩, hx⟩ : ∃ q, l[k] = q := ⟨_, rfl⟩
        rw [hx] at hcells ht
        rw [HT.out] at ht
        have c2 : W1.cell? ⟨g0, o0 + k * 3 + 2, none⟩ = some (.bool a1) := hcells 2 _ rfl
        have hi1 : (k : Int) < (n : Int) := by omega
        clear hcells hat hx hob hgl
        by_cases he : a1 = au
        · subst he
          have HQ : Hid (cnt a1 (l.take (k + 1)) = m + 1) := by rw [ht]; simp; exact hidK trivial
          have hbb : (a1 == a1) = true := by simp
          clear ht
          go_wp2_with fail
          go_roundw
          case rel => exact ⟨k + 1, m + 1, by omega, by omega, by go_num, by go_num, by trivial, HQ⟩
          case measure => simp [intOf]; omega
        · have HQ : Hid (cnt au (l.take (k + 1)) = m) := by rw [ht, if_neg he]; exact hidK rfl
          have hbb : (a1 == au) = false := by simpa using he
          clear ht
          go_wp2_with fail
          go_roundw
          case rel => exact ⟨k + 1, m, by omega, by omega, rfl, by go_num, by trivial, HQ⟩
          case measure => simp [intOf]; omega
    · have HQ : Hid (R = m) := by
        have e : l.take k = l := List.take_of_length_le (by have := HN.out; omega)
        rw [← HR.out, ← HT.out, e]
        exact hidK rfl
      clear HT
      go_wp2_with fail
      go_ret
      exact ⟨by rw [HQ.out]; rfl, HB.out⟩
/-- What the document means. -/
def mntM (name : ByteArray) (l : List Kp) : Int := match mnt name l with | some i => (i : Int) | none => -1
set_option maxHeartbeats 4000000 in
theorem rMeant_any {w : World} {v : Value} {l : List Kp} (h : ItsAt w v l) (lim c : Int) (name : ByteArray) :
    Calls Tryd.prog 56 #[.agg #[v, .int .i64 lim, .int .i64 c], .string name] w fun e w' => e = .returned (.int .i64 (mntM name l)) ∧ Below w.heap.size w w' := by
  obtain ⟨ad, cp, rfl, hle, hcm, hnil, hsome⟩ := h.shape
  obtain ⟨n, hn⟩ : ∃ n, l.length = n := ⟨_, rfl⟩
  have HN := hidK hn
  have HS := hidK hsome
  have HNil := hidK hnil
  have hn63 : n ≤ 9223372036854775807 := by unfold maxLen at hcm; omega
  obtain ⟨R, hR⟩ : ∃ R, mntM name l = R := ⟨_, rfl⟩
  have HR := hidK hR
  rw [hR]
  obtain ⟨W1, hW1⟩ : ∃ W, w.alloc (.cells #[.slice ad n cp, .int .i64 lim, .int .i64 c] 62) = W := ⟨_, rfl⟩
  obtain ⟨Q, hQ⟩ : ∃ Q, w.heap.size = Q := ⟨_, rfl⟩
  have a1 : W1.heap[Q]? = some (.cells #[.slice ad n cp, .int .i64 lim, .int .i64 c] 62 (0, 0)) := by rw [← hW1, ← hQ]; exact heap_alloc_new w _
  have b1 : Below w.heap.size w W1 := by rw [← hW1]; exact (Below.refl _ _).alloc (Nat.le_refl _) _
  have q0 := cell_at a1 0
  have q1 := cell_at a1 1
  have q2 := cell_at a1 2
  have HB := hidK b1
  have HC := hidK (rAt_any (h.below b1) lim c name)
  rw [hn] at HC ⊢
  clear hn hsome hnil h hle hcm hR a1 b1
  by_cases hz : name.size = 0
  · have t1 : name.toList = [] := size_toList.2 hz
    have t2 : name.toList.isEmpty = true := by rw [t1]; rfl
    have HM : Hid (mnt name l = (match l.findIdx? isA with | some i => some i | none => if l.length = 0 then none else some 0)) := if_pos hz
    clear hz HC
    go_enter Tryd.func56, Tryd.ntmps56
    go_wp2_with fail
    go_loopw [5] (fun i wr => ∃ k : Nat, k ≤ n ∧ i = .int .i64 k ∧ W1 = wr ∧ Hid (∀ j (hj : j < l.length), j < k → isA l[j] = false)) (fun i _ => n - (intOf i).toNat)
    case atStart => exact ⟨0, Nat.zero_le _, rfl, by trivial, fun j _ hj => by omega⟩
    case round =>
      obtain ⟨k, hk, rfl, rfl, HT⟩ := hrel
      by_cases hlt : k < n
      · have hkl : k < l.length := by rw [HN.out]; exact hlt
        cases ad with
        | none => have := (HNil.out rfl).1; rw [this] at hkl; simp at hkl
        | some a =>
          obtain ⟨g0, o0, rfl, hob, hgl, hat⟩ := HS.out _ rfl
          have hcells := fun c u hu => (hat W1 (HB.out.block g0 hgl)).1 k hkl c u hu
          obtain ⟨⟨n1, t1', a1⟩, hx⟩ : ∃ q, l[k] = q := ⟨_, rfl⟩
          rw [hx] at hcells
          have c2 : W1.cell? ⟨g0, o0 + k * 3 + 2, none⟩ = some (.bool a1) := hcells 2 _ rfl
          have hi1 : (k : Int) < (n : Int) := by omega
          have hpk : isA l[k] = a1 := by rw [hx]; rfl
          clear hcells hat hx hob hgl
          cases a1 with
          | true =>
            have HQ : Hid ((k : Int) = R) := by
              have hfd : l.findIdx? isA = some k := List.findIdx?_eq_some_iff_getElem.2 ⟨hkl, hpk, fun j hj => by rw [HT.out j (by omega) hj]; simp⟩
              show _ = _
              rw [← HR.out]
              unfold mntM
              rw [HM.out, hfd]
            clear hpk
            go_wp2_with fail
            go_ret
            exact ⟨by rw [HQ.out]; rfl, HB.out⟩
          | false =>
            have HQ : Hid (∀ j (hj : j < l.length), j < k + 1 → isA l[j] = false) := fun j hj hjk => by
              by_cases e : j = k
              · subst e; exact hpk
              · exact HT.out j hj (by omega)
            clear hpk
            go_wp2_with fail
            go_roundw
            case rel => exact ⟨k + 1, by omega, by go_num, by trivial, HQ⟩
            case measure => simp [intOf]; omega
      · have hkn : k = n := by omega
        have hfd : l.findIdx? isA = none := List.findIdx?_eq_none_iff.2 fun x hx => by
          obtain ⟨j, hj, rfl⟩ := List.getElem_of_mem hx
          exact HT.out j hj (by have := HN.out; omega)
        have HQ : Hid (R = if n = 0 then -1 else 0) := by
          show _ = _
          rw [← HR.out]
          unfold mntM
          rw [HM.out, hfd, HN.out]
          by_cases h0 : n = 0
          · simp [h0]
          · simp [h0]
        clear HT hfd hkn
        have hwr : IntKind.i64.wrap ((n : Int) - 1) = (n : Int) - 1 := by rw [IntKind.wrap_i64]; omega
        by_cases h0 : n = 0
        · have HQ2 : Hid (R = -1) := by show _ = _; rw [HQ.out, if_pos h0]
          have hmin : min (0 : Int) ((n : Int) - 1) = -1 := by omega
          go_wp2_with fail
          go_ret
          exact ⟨by rw [HQ2.out]; first | rfl | (show Ending.returned (.int .i64 (min 0 (-1))) = _; decide), by first | exact HB.out | (rw [← hQ]; exact HB.out)⟩
        · have HQ2 : Hid (R = 0) := by show _ = _; rw [HQ.out, if_neg h0]
          have hmin : min (0 : Int) ((n : Int) - 1) = 0 := by omega
          go_wp2_with fail
          go_ret
          exact ⟨by rw [HQ2.out]; first | rfl | (show Ending.returned (.int .i64 (min 0 (-1))) = _; decide), by first | exact HB.out | (rw [← hQ]; exact HB.out)⟩
  · have t1 : ¬ name.toList = [] := fun e => hz (size_toList.1 e)
    have t2 : name.toList.isEmpty = false := by simpa using t1
    have HM : Hid (fidx (nmd name) l = R) := by
      show _ = _
      rw [← HR.out]
      unfold mntM mnt fidx
      rw [if_neg hz]
      cases l.findIdx? (nmd name) <;> rfl
    clear hz
    go_enter Tryd.func56, Tryd.ntmps56
    go_wp2_with (go_at_call 49; refine HC.out.mono ?_; rintro e w2 ⟨rfl, hb2⟩; have HB2 := hidK (HB.out.trans (hb2.mono HB.out.size)); clear hb2)
    go_ret
    exact ⟨by rw [← HM.out]; rfl, HB2.out⟩
end Go.Proofs.YtgbaeajcgiaboaaDoor
